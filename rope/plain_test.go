package rope_test

import (
	"math"
	"math/big"
	"slices"
	"strconv"
	"strings"
	"testing"

	"herald/api"
)

const (
	least    = math.MinInt64
	greatest = math.MaxInt64
)

// narrow is a list of 8 bits.
func narrow(l ...int8) []int8 { return l }

// filled is n times a number.
func filled[T any](n int, x T) []T { return slices.Repeat([]T{x}, n) }

// is asks for just these numbers, and no error.
func is(t *testing.T, what string, want []int8) func(got []int8, e api.Errno) {
	return func(got []int8, e api.Errno) {
		t.Helper()
		if !slices.Equal(got, want) || e != api.OK {
			t.Errorf("%s: %v, %d and not %v", what, got, e, want)
		}
	}
}

// fails asks for an error, and for nothing beside it.
func fails(t *testing.T, what string, want api.Errno) func(got []int8, e api.Errno) {
	return func(got []int8, e api.Errno) {
		t.Helper()
		if len(got) != 0 || e != want {
			t.Errorf("%s: %v, %d and not %d", what, got, e, want)
		}
	}
}

// okay asks for no error, and hands the answer on.
func okay(t *testing.T, what string) func(got []int8, e api.Errno) []int8 {
	return func(got []int8, e api.Errno) []int8 {
		t.Helper()
		if e != api.OK {
			t.Fatalf("%s: %d", what, e)
		}
		return got
	}
}

// angled is what a call says that answers cosines and sines.
type angled func(cos, sin []int8, e api.Errno)

// are asks for just these cosines and sines, and no error.
func are(t *testing.T, what string, cos, sin []int8) angled {
	return func(c, s []int8, e api.Errno) {
		t.Helper()
		if !slices.Equal(c, cos) || !slices.Equal(s, sin) || e != api.OK {
			t.Errorf("%s: %v, %v, %d and not %v, %v", what, c, s, e, cos, sin)
		}
	}
}

// refused asks for an error, and for no angles beside it.
func refused(t *testing.T, what string, want api.Errno) angled {
	return func(c, s []int8, e api.Errno) {
		t.Helper()
		if len(c) != 0 || len(s) != 0 || e != want {
			t.Errorf("%s: %v, %v, %d and not %d", what, c, s, e, want)
		}
	}
}

// spread is numbers from 0 to less than a bound, in no order that the eye could tell, always the same ones.
type spread uint64

func (s *spread) below(bound int) int {
	*s = *s*6364136223846793005 + 1442695040888963407
	return int(*s>>33) % bound
}

// row is n numbers of 8 bits, all 256 of them.
func (s *spread) row(n int) []int8 {
	l := make([]int8, n)
	for i := range l {
		l[i] = int8(s.below(256) - 128)
	}
	return l
}

// someHeads hands on rows of each size of heads up to past twice what a table has, of none to four heads, with angles for them.
func someHeads(seed spread, ask func(x []int8, size int, cos, sin []int8)) {
	s := &seed
	for size := 2; size <= 4*api.MaxHalf+2; size += 2 {
		for heads := range 5 {
			ask(s.row(heads*size), size, s.row(size/2), s.row(size/2))
		}
	}
}

// roundedOf is n over 64 in numbers of any size: the nearest, of two as near the even one, brought within 127.
func roundedOf(n int) int8 {
	q, r := new(big.Int).DivMod(big.NewInt(int64(n)), big.NewInt(64), new(big.Int))
	if left := r.Int64(); left > 32 || left == 32 && q.Bit(0) == 1 {
		q.Add(q, big.NewInt(1))
	}
	return int8(max(-127, min(127, q.Int64())))
}

// turnedOf is each pair of each head turned by the chapter's words, or turned back.
func turnedOf(x []int8, size int, cos, sin []int8, back bool) []int8 {
	row := make([]int8, 0, len(x))
	for head := range slices.Chunk(x, size) {
		for i := range size / 2 {
			a, b, c, s := int(head[2*i]), int(head[2*i+1]), int(cos[i]), int(sin[i])
			if back {
				row = append(row, roundedOf(a*c+b*s), roundedOf(b*c-a*s))
			} else {
				row = append(row, roundedOf(a*c-b*s), roundedOf(a*s+b*c))
			}
		}
	}
	return row
}

// quarterText is the chapter's list, as it stands there.
const quarterText = `
    0 2 3 5 6 8 9 11 12 14 16 17 19 20 22 23 24 26 27 29 30 32 33 34 36 37 38 39 41 42 43 44 45
    46 47 48 49 50 51 52 53 54 55 56 56 57 58 59 59 60 60 61 61 62 62 62 63 63 63 64 64 64 64 64 64
`

// circleOf is the sines of a whole turn, by the chapter's words.
func circleOf(t *testing.T) []int8 {
	t.Helper()
	quarter := make([]int8, 0, 65)
	for word := range strings.FieldsSeq(quarterText) {
		n, err := strconv.Atoi(word)
		if err != nil {
			t.Fatal(err)
		}
		quarter = append(quarter, int8(n))
	}
	if len(quarter) != 65 {
		t.Fatal("the chapter's list", len(quarter))
	}
	circle := make([]int8, 256)
	for r := range 64 {
		circle[r] = quarter[r]
		circle[64+r] = quarter[64-r]
		circle[128+r] = -quarter[r]
		circle[192+r] = -quarter[64-r]
	}
	return circle
}

// stretchedOf is the cosines and the sines of a table in numbers of any size.
func stretchedOf(circle []int8, places, half, num, den int) ([]int8, []int8) {
	var cos, sin []int8
	for p := range places {
		for i := range half {
			n := new(big.Int).Mul(big.NewInt(int64(64*p)), big.NewInt(int64(num)))
			d := new(big.Int).Lsh(big.NewInt(int64(den)), uint(i))
			angle := int(n.Div(n, d).Mod(n, big.NewInt(256)).Int64())
			cos, sin = append(cos, circle[(angle+64)%256]), append(sin, circle[angle])
		}
	}
	return cos, sin
}
