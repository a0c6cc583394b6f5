package norm_test

import (
	"math"
	"math/big"
	"slices"
	"testing"

	"herald/api"
)

const (
	least    = math.MinInt64
	greatest = math.MaxInt64
	most     = api.MaxReach
)

// narrow and wide are lists of 8 and of 64 bits.
func narrow(l ...int8) []int8 { return l }

func wide(l ...int64) []int64 { return l }

// filled is n times a number.
func filled[T any](n int, x T) []T { return slices.Repeat([]T{x}, n) }

// is asks for just these numbers, and no error.
func is[T comparable](t *testing.T, what string, want []T) func(got []T, e api.Errno) {
	return func(got []T, e api.Errno) {
		t.Helper()
		if !slices.Equal(got, want) || e != api.OK {
			t.Errorf("%s: %v, %d and not %v", what, got, e, want)
		}
	}
}

// fails asks for an error, and for nothing beside it.
func fails(t *testing.T, what string, want api.Errno) func(got []int8, e api.Errno) {
	return func(got []int8, e api.Errno) {
		t.Helper()
		if len(got) != 0 || e != want {
			t.Errorf("%s: %v, %d and not %d", what, got, e, want)
		}
	}
}

// okay asks for no error, and hands the answer on.
func okay[T any](t *testing.T, what string) func(got T, e api.Errno) T {
	return func(got T, e api.Errno) T {
		t.Helper()
		if e != api.OK {
			t.Fatalf("%s: %d", what, e)
		}
		return got
	}
}

// spread is numbers from 0 to less than a bound, in no order that the eye could tell, always the same ones.
type spread uint64

func (s *spread) below(bound int) int {
	*s = *s*6364136223846793005 + 1442695040888963407
	return int(*s>>33) % bound
}

// row is n numbers of at most that size.
func (s *spread) row(n int, size int64) []int64 {
	l := make([]int64, n)
	for i := range l {
		l[i] = int64(s.below(int(2*size+1))) - size
	}
	return l
}

// gains is n numbers of 8 bits, all 256 of them.
func (s *spread) gains(n int) []int8 {
	l := make([]int8, n)
	for i := range l {
		l[i] = int8(s.below(256) - 128)
	}
	return l
}

// someRows hands on rows that may be: of each length, of small and of great numbers, of one great one among none, of both ends.
func someRows(seed spread, ask func(l []int64, s *spread)) {
	s := &seed
	for n := 1; n <= api.MaxDim; n++ {
		for _, size := range []int64{0, 1, 2, 3, 15, 16, 127, 1000, 65535, 1 << 20, most - 1, most} {
			ask(s.row(n, size), s)
			ask(filled(n, size), s)
			ask(filled(n, -size), s)
			alone := make([]int64, n)
			alone[s.below(n)] = size
			ask(alone, s)
			ends := s.row(n, 1)
			for i, x := range ends {
				ends[i] = (2*(x&1) - 1) * size
			}
			ask(ends, s)
		}
	}
}

// rootOf is a row's root in numbers of any size.
func rootOf(l []int64) *big.Int {
	sum := new(big.Int)
	for _, x := range l {
		sum.Add(sum, new(big.Int).Mul(big.NewInt(x), big.NewInt(x)))
	}
	r := sum.Sqrt(sum.Div(sum, big.NewInt(int64(len(l)))))
	if r.Sign() == 0 {
		return r.SetInt64(1)
	}
	return r
}

// partOf is 64 times x over r in numbers of any size, cut toward 0.
func partOf(x int64, r *big.Int) *big.Int {
	t := new(big.Int).Mul(big.NewInt(64), big.NewInt(x))
	return t.Quo(t, r)
}

// gainedOf is t times the gain over 64 in numbers of any size: the nearest, of two as near the even one.
func gainedOf(t *big.Int, gain int8) *big.Int {
	n := new(big.Int).Mul(t, big.NewInt(int64(gain)))
	q, r := n.DivMod(n, big.NewInt(64), new(big.Int))
	if left := r.Int64(); left > 32 || left == 32 && q.Bit(0) == 1 {
		q.Add(q, big.NewInt(1))
	}
	return q
}

// layerOf is what Row, with a bias for each number, says of a row.
func layerOf(l []int64, gain, bias []int8) []int8 {
	r := rootOf(l)
	row := make([]int8, len(l))
	for i, x := range l {
		n := gainedOf(partOf(x, r), gain[i])
		row[i] = int8(max(-127, min(127, n.Add(n, big.NewInt(int64(bias[i]))).Int64())))
	}
	return row
}

// centerOf is a row, each number less the mean, and the mean.
func centerOf(l []int64) ([]int64, int64) {
	sum := new(big.Int)
	for _, x := range l {
		sum.Add(sum, big.NewInt(x))
	}
	mean := sum.Div(sum, big.NewInt(int64(len(l)))).Int64() // by a divisor above 0, Div goes down
	centered := make([]int64, len(l))
	for i, x := range l {
		centered[i] = x - mean
	}
	return centered, mean
}

// refused is rows that may not be, and the error of each.
func refused() map[string]struct {
	l []int64
	e api.Errno
} {
	last := make([]int64, api.MaxDim)
	last[api.MaxDim-1] = most + 1
	return map[string]struct {
		l []int64
		e api.Errno
	}{
		"nil":                      {nil, api.ErrArg},
		"none":                     {wide(), api.ErrArg},
		"one more than may be":     {make([]int64, api.MaxDim+1), api.ErrArg},
		"many more":                {make([]int64, 5000), api.ErrArg},
		"too many, too great":      {filled[int64](api.MaxDim+1, most+1), api.ErrArg},
		"too many, the least":      {filled[int64](api.MaxDim+1, least), api.ErrArg},
		"one too great":            {wide(most + 1), api.ErrReach},
		"one too great, below":     {wide(-most - 1), api.ErrReach},
		"the first":                {wide(most+1, 0, 0), api.ErrReach},
		"the first, below":         {wide(-most-1, 0, 0), api.ErrReach},
		"the last":                 {wide(1, 2, most+1), api.ErrReach},
		"the last, below":          {wide(1, 2, -most-1), api.ErrReach},
		"the last of the most":     {last, api.ErrReach},
		"the least":                {wide(least), api.ErrReach},
		"the greatest":             {wide(greatest), api.ErrReach},
		"the least in the middle":  {wide(5, least, -5), api.ErrReach},
		"squares that wrap to 0":   {wide(1<<32, 1<<32), api.ErrReach},
		"the most, all too great":  {filled[int64](api.MaxDim, most+1), api.ErrReach},
		"the ends that sum to -1":  {wide(least, greatest), api.ErrReach},
		"great ones that cancel":   {wide(most+1, -most-1), api.ErrReach},
		"one past 31 bits":         {wide(1 << 31), api.ErrReach},
		"one whose low half is 0":  {wide(1 << 32), api.ErrReach},
		"the least of 32 bits off": {wide(-1 << 32), api.ErrReach},
	}
}
