package act_test

import (
	"math"
	"math/big"
	"slices"
	"testing"

	"herald/act"
	"herald/api"
)

const (
	least    = math.MinInt64
	greatest = math.MaxInt64
	whole    = 65536 // what the weights of the chosen sum to
)

// narrow is a list of 8 bits.
func narrow(l ...int8) []int8 { return l }

// wide is a list of 64 bits.
func wide(l ...int64) []int64 { return l }

// filled is n times a thing.
func filled[T any](n int, x T) []T { return slices.Repeat([]T{x}, n) }

// with is a list with another thing at one place.
func with[T any](l []T, at int, x T) []T {
	l = slices.Clone(l)
	l[at] = x
	return l
}

// is asks for just these things, and no error.
func is[T comparable](t *testing.T, what string, want []T) func(got []T, e api.Errno) {
	return func(got []T, e api.Errno) {
		t.Helper()
		if !slices.Equal(got, want) || e != api.OK {
			t.Errorf("%s: %v, %d and not %v", what, got, e, want)
		}
	}
}

// fails asks for an error, and for nothing beside it.
func fails[T any](t *testing.T, what string, want api.Errno) func(got []T, e api.Errno) {
	return func(got []T, e api.Errno) {
		t.Helper()
		if len(got) != 0 || e != want {
			t.Errorf("%s: %v, %d and not %d", what, got, e, want)
		}
	}
}

// okay asks for no error, and hands the answer on.
func okay[T any](t *testing.T, what string) func(got T, e api.Errno) T {
	return func(got T, e api.Errno) T {
		t.Helper()
		if e != api.OK {
			t.Fatalf("%s: %d", what, e)
		}
		return got
	}
}

// chooses asks for just these places and weights, and this error.
func chooses(t *testing.T, what string, places []int, weights []int64, err api.Errno) func(l []int, w []int64, e api.Errno) {
	return func(l []int, w []int64, e api.Errno) {
		t.Helper()
		if !slices.Equal(l, places) || !slices.Equal(w, weights) || e != err {
			t.Errorf("%s: %v, %v, %d and not %v, %v, %d", what, l, w, e, places, weights, err)
		}
	}
}

// cut, smooth and square are the usual bends.
func cut(t *testing.T) []int8    { return okay[[]int8](t, "cut")(act.Table(api.BendCut)) }
func smooth(t *testing.T) []int8 { return okay[[]int8](t, "soft")(act.Table(api.BendSoft)) }
func square(t *testing.T) []int8 { return okay[[]int8](t, "square")(act.Table(api.BendSquare)) }

// every is all 8-bit numbers, the least first.
func every() []int8 {
	l := make([]int8, 256)
	for i := range l {
		l[i] = int8(i - 128)
	}
	return l
}

// bendOf is what a bend makes of x, by the chapter's words.
func bendOf(bend []int8, x int8) int8 {
	if x >= 0 {
		return bend[x]
	}
	return bend[int(x)+256]
}

// spread is numbers from 0 to less than a bound, in no order that the eye could tell, always the same ones.
type spread uint64

func (s *spread) next() uint64 {
	*s = *s*6364136223846793005 + 1442695040888963407
	return uint64(*s >> 11)
}

func (s *spread) below(bound int) int { return int(s.next() % uint64(bound)) }

// numbers is n numbers of 8 bits, all 256 of them.
func (s *spread) numbers(n int) []int8 {
	l := make([]int8, n)
	for i := range l {
		l[i] = int8(s.below(256) - 128)
	}
	return l
}

// middle is a middle of so many columns, inner numbers and rows.
func (s *spread) middle(cols, inner, rows int) api.Middle {
	return api.Middle{
		Gate: s.numbers(inner * cols), Up: s.numbers(inner * cols), Down: s.numbers(rows * inner),
		GateS: 5 + s.below(6), UpS: 5 + s.below(6), DownS: s.below(8),
	}
}

// bigOf is a number of any size.
func bigOf(x int64) *big.Int { return big.NewInt(x) }

// floorOf is the floor of a quotient in numbers of any size.
func floorOf(x, d *big.Int) *big.Int {
	return new(big.Int).Div(x, d) // of a divisor above 0 that is the floor
}

// roundOf is the nearest whole number of x / 2^shift, of two as near the even one, by the words of chapter 2.
func roundOf(x *big.Int, shift int) *big.Int {
	d := new(big.Int).Lsh(bigOf(1), uint(shift))
	floor := floorOf(x, d)
	left := new(big.Int).Sub(x, new(big.Int).Mul(floor, d))
	switch left.Lsh(left, 1).Cmp(d) {
	case 1:
		floor.Add(floor, bigOf(1))
	case 0:
		floor.Add(floor, new(big.Int).And(floor, bigOf(1)))
	}
	return floor
}

// narrowOf is a number brought within 8 bits, by the words of chapter 2.
func narrowOf(x *big.Int) int8 {
	if x.Cmp(bigOf(127)) > 0 {
		return 127
	}
	if x.Cmp(bigOf(-127)) < 0 {
		return -127
	}
	return int8(x.Int64())
}

// exp2Of is Exp2 by the words of chapter 2, of an x that is not above 0.
func exp2Of(x int64) *big.Int {
	one := bigOf(65536)
	floor := floorOf(bigOf(x), one)
	left := new(big.Int).Sub(bigOf(x), new(big.Int).Mul(floor, one))
	c := bigOf(84941200)
	for _, constant := range []int64{241400000, 747400624, 1073741824} {
		c = new(big.Int).Add(bigOf(constant), floorOf(new(big.Int).Mul(c, left), one))
	}
	if floor.Cmp(bigOf(-31)) <= 0 {
		return new(big.Int)
	}
	return c.Rsh(c, uint(-floor.Int64()))
}

// softOf is BendSoft by the chapter's words.
func softOf(x int64) int8 {
	away := max(x, -x)
	whole := new(big.Int).Lsh(bigOf(1), 30)
	s := floorOf(new(big.Int).Mul(bigOf(64), whole), new(big.Int).Add(whole, exp2Of(-8192*away)))
	if x < 0 {
		s.Sub(bigOf(64), s)
	}
	return narrowOf(roundOf(s.Mul(s, bigOf(x)), 6))
}

// gateOf is a Gate by the chapter's words, of lists that go together.
func gateOf(bend, gate, up []int8) []int8 {
	l := make([]int8, len(gate))
	for i, x := range gate {
		l[i] = narrowOf(roundOf(bigOf(int64(bendOf(bend, x))*int64(up[i])), 6))
	}
	return l
}

// timesOf is each row of w with x, in numbers of any size.
func timesOf(w, x []int8) []*big.Int {
	l := make([]*big.Int, len(w)/len(x))
	for i := range l {
		l[i] = new(big.Int)
		for j, y := range x {
			l[i].Add(l[i], bigOf(int64(w[i*len(x)+j])*int64(y)))
		}
	}
	return l
}

// shrunkOf is numbers brought to 8 bits.
func shrunkOf(l []*big.Int, shift int) []int8 {
	row := make([]int8, len(l))
	for i, x := range l {
		row[i] = narrowOf(roundOf(x, shift))
	}
	return row
}

// scaledOf is numbers over 2^shift.
func scaledOf(l []*big.Int, shift int) []int64 {
	row := make([]int64, len(l))
	for i, x := range l {
		row[i] = roundOf(x, shift).Int64()
	}
	return row
}

// middleOf is a Middle by the chapter's words, of parts that go together.
func middleOf(b api.Middle, bend, h []int8) []int64 {
	g, u := shrunkOf(timesOf(b.Gate, h), b.GateS), shrunkOf(timesOf(b.Up, h), b.UpS)
	return scaledOf(timesOf(b.Down, gateOf(bend, g, u)), b.DownS)
}

// chosenOf is the chosen of scores by the chapter's words: k times the greatest one of those left is looked for.
func chosenOf(scores []int64, k int) ([]int, []int64) {
	var places []int
	var es []*big.Int
	sum := new(big.Int)
	for range k {
		best := -1
		for i, x := range scores {
			if !slices.Contains(places, i) && (best < 0 || x > scores[best]) {
				best = i
			}
		}
		places = append(places, best)
		es = append(es, exp2Of(256*(scores[best]-slices.Max(scores))))
		sum.Add(sum, es[len(es)-1])
	}
	weights := make([]int64, k)
	missing := int64(whole)
	for i, e := range es {
		weights[i] = floorOf(new(big.Int).Mul(bigOf(whole), e), sum).Int64()
		missing -= weights[i]
	}
	weights[0] += missing
	return places, weights
}

// expertsOf is Experts by the chapter's words, of parts that go together.
func expertsOf(router []int8, shift, k int, l []api.Middle, bend, h []int8) []int64 {
	places, weights := chosenOf(scaledOf(timesOf(router, h), shift), k)
	var sums []*big.Int
	for i, place := range places {
		for j, x := range middleOf(l[place], bend, h) {
			if i == 0 {
				sums = append(sums, new(big.Int))
			}
			sums[j].Add(sums[j], new(big.Int).Mul(bigOf(weights[i]), bigOf(x)))
		}
	}
	return scaledOf(sums, 16)
}
