package vec_test

import (
	"math"
	"math/big"
	"slices"
	"testing"

	"herald/api"
)

// least and greatest are the ends of the numbers of 64 bits.
const (
	least    = math.MinInt64
	greatest = math.MaxInt64
)

// narrow and wide are lists of 8 and of 64 bits.
func narrow(l ...int8) []int8 { return l }

func wide(l ...int64) []int64 { return l }

// is asks for just these elements, and no error.
func is[T comparable](t *testing.T, what string, want []T) func(got []T, e api.Errno) {
	return func(got []T, e api.Errno) {
		t.Helper()
		if !slices.Equal(got, want) || e != api.OK {
			t.Errorf("%s: %v, %d and not %v", what, short(got), e, short(want))
		}
	}
}

// fails asks for an error, and for nothing beside it.
func fails[T any](t *testing.T, what string, want api.Errno) func(got []T, e api.Errno) {
	return func(got []T, e api.Errno) {
		t.Helper()
		if len(got) != 0 || e != want {
			t.Errorf("%s: %v, %d and not %d", what, short(got), e, want)
		}
	}
}

// okay asks for no error, and hands the answer on.
func okay[T any](t *testing.T, what string) func(got T, e api.Errno) T {
	return func(got T, e api.Errno) T {
		t.Helper()
		if e != api.OK {
			t.Fatalf("%s: %d", what, e)
		}
		return got
	}
}

// short is the beginning of a list, as much as a reader wants to see.
func short[T any](l []T) []T { return l[:min(len(l), 40)] }

// filled is n times a number.
func filled[T any](n int, x T) []T { return slices.Repeat([]T{x}, n) }

// spread is numbers from 0 to less than a bound, in no order that the eye could tell, always the same ones.
type spread uint64

func (s *spread) below(bound int) int {
	*s = *s*6364136223846793005 + 1442695040888963407
	return int(*s>>33) % bound
}

// row is n numbers of 8 bits, all 256 of them.
func (s *spread) row(n int) []int8 {
	l := make([]int8, n)
	for i := range l {
		l[i] = int8(s.below(256) - 128)
	}
	return l
}

// small is n numbers from -most to most.
func (s *spread) small(n, most int) []int8 {
	l := make([]int8, n)
	for i := range l {
		l[i] = int8(s.below(2*most+1) - most)
	}
	return l
}

// wide is n numbers of 64 bits, of all lengths and either sign.
func (s *spread) wide(n int) []int64 {
	l := make([]int64, n)
	for i := range l {
		l[i] = int64(uint64(s.below(1<<31-1))<<33^uint64(s.below(1<<31-1))<<8) >> s.below(64)
	}
	return l
}

// edges is numbers of 64 bits about each power of two, of either sign, and both ends.
func edges() []int64 {
	l := wide(least, least+1, least+2, greatest, greatest-1, 0)
	for n := range 63 {
		for d := int64(-1); d <= 1; d++ {
			l = append(l, 1<<n+d, -(1<<n + d), 3<<(n/2)+d, -(3 << (n / 2)))
		}
	}
	return l
}

// every is all numbers of 8 bits.
func every() []int8 {
	l := make([]int8, 256)
	for i := range l {
		l[i] = int8(i - 128)
	}
	return l
}

// summed is the sum of products in numbers of any size: of a, from its place i on, each step apart, and of b likewise, so many.
func summed(a []int8, i, step int, b []int8, j, stride, n int) int64 {
	sum := new(big.Int)
	for k := range n {
		sum.Add(sum, new(big.Int).Mul(big.NewInt(int64(a[i+k*step])), big.NewInt(int64(b[j+k*stride]))))
	}
	return sum.Int64()
}

// nearest is x over 2^shift in numbers of any size: the nearest, of two as near the even one.
func nearest(x int64, shift int) int64 {
	d := new(big.Int).Lsh(big.NewInt(1), uint(shift))
	q, r := new(big.Int).DivMod(big.NewInt(x), d, new(big.Int))
	twice := r.Lsh(r, 1).Cmp(d)
	if twice > 0 || twice == 0 && q.Bit(0) == 1 {
		q.Add(q, big.NewInt(1))
	}
	return q.Int64()
}

// within is x, brought from -most to most.
func within(x, most int64) int64 { return max(-most, min(most, x)) }
