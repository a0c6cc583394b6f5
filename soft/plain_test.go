package soft_test

import (
	"math"
	"math/big"
	"slices"
	"testing"

	"herald/api"
)

const (
	least    = math.MinInt64
	greatest = math.MaxInt64
	whole    = 1 << 30 // what the greatest score weighs, and the greatest weight that may be
	half     = whole / 2
	far      = 1 << 40 // the greatest distance, and the greatest score that may be sloped
)

// narrow is a list of 8 bits.
func narrow(l ...int8) []int8 { return l }

// wide is a list of 64 bits.
func wide(l ...int64) []int64 { return l }

// filled is n times a thing.
func filled[T any](n int, x T) []T { return slices.Repeat([]T{x}, n) }

// with is a list with another thing at one place.
func with[T any](l []T, at int, x T) []T {
	l = slices.Clone(l)
	l[at] = x
	return l
}

// more is a list with one thing more.
func more[T any](l []T, x T) []T { return append(slices.Clone(l), x) }

// is asks for just these things, and no error.
func is[T comparable](t *testing.T, what string, want []T) func(got []T, e api.Errno) {
	return func(got []T, e api.Errno) {
		t.Helper()
		if !slices.Equal(got, want) || e != api.OK {
			t.Errorf("%s: %v, %d and not %v", what, got, e, want)
		}
	}
}

// fails asks for an error, and for nothing beside it.
func fails[T any](t *testing.T, what string, want api.Errno) func(got []T, e api.Errno) {
	return func(got []T, e api.Errno) {
		t.Helper()
		if len(got) != 0 || e != want {
			t.Errorf("%s: %v, %d and not %d", what, got, e, want)
		}
	}
}

// okay asks for no error, and hands the answer on.
func okay[T any](t *testing.T, what string) func(got T, e api.Errno) T {
	return func(got T, e api.Errno) T {
		t.Helper()
		if e != api.OK {
			t.Fatalf("%s: %d", what, e)
		}
		return got
	}
}

// means asks for just this number and this error.
func means(t *testing.T, what string, want int8, err api.Errno) func(got int8, e api.Errno) {
	return func(got int8, e api.Errno) {
		t.Helper()
		if got != want || e != err {
			t.Errorf("%s: %d, %d and not %d, %d", what, got, e, want, err)
		}
	}
}

// finds asks for just this number at this place, and this error.
func finds(t *testing.T, what string, want int8, place int, err api.Errno) func(got int8, at int, e api.Errno) {
	return func(got int8, at int, e api.Errno) {
		t.Helper()
		if got != want || at != place || e != err {
			t.Errorf("%s: %d at %d, %d and not %d at %d, %d", what, got, at, e, want, place, err)
		}
	}
}

// spread is numbers from 0 to less than a bound, in no order that the eye could tell, always the same ones.
type spread uint64

func (s *spread) next() uint64 {
	*s = *s*6364136223846793005 + 1442695040888963407
	return uint64(*s >> 11)
}

func (s *spread) below(bound int) int { return int(s.next() % uint64(bound)) }

// numbers is n numbers of 8 bits, all 256 of them.
func (s *spread) numbers(n int) []int8 {
	l := make([]int8, n)
	for i := range l {
		l[i] = int8(s.below(256) - 128)
	}
	return l
}

// scores is n numbers whose size is at most a bound.
func (s *spread) scores(n, bound int) []int64 {
	l := make([]int64, n)
	for i := range l {
		l[i] = int64(s.below(2*bound+1) - bound)
	}
	return l
}

// weights is n weights of up to a bound, some of them 0, one of them not.
func (s *spread) weights(n, bound int) []int64 {
	l := make([]int64, n)
	for i := range l {
		if s.below(4) != 0 {
			l[i] = int64(s.below(bound + 1))
		}
	}
	l[s.below(n)] = int64(1 + s.below(bound))
	return l
}

// sizes is how many scores or weights are asked for.
func sizes() []int { return []int{1, 2, 3, 4, 7, 16, 33, 100, 511, api.MaxSeen} }

// someScores hands on scores of each size, near to one another and far off.
func someScores(seed spread, ask func(scores []int64, s *spread)) {
	s := &seed
	for _, n := range sizes() {
		for _, bound := range []int{0, 1, 100, 256, 3000, 10000, 1 << 20, far} {
			ask(s.scores(n, bound), s)
		}
	}
}

// someWeights hands on weights of each size, small and great ones.
func someWeights(seed spread, ask func(w []int64, s *spread)) {
	s := &seed
	for _, n := range sizes() {
		for _, bound := range []int{1, 2, 5, 1000, 1 << 20, whole} {
			ask(s.weights(n, bound), s)
		}
	}
}

// bigOf is a number of any size.
func bigOf(x int64) *big.Int { return big.NewInt(x) }

// floorOf is the floor of a quotient in numbers of any size.
func floorOf(x, d *big.Int) *big.Int {
	return new(big.Int).Div(x, d) // of a divisor above 0 that is the floor
}

// exp2Of is Exp2 by the words of chapter 2, of an x that is not above 0.
func exp2Of(x *big.Int) int64 {
	one := bigOf(65536)
	floor := floorOf(x, one)
	left := new(big.Int).Sub(x, new(big.Int).Mul(floor, one))
	c := bigOf(84941200)
	for _, constant := range []int64{241400000, 747400624, 1073741824} {
		c = new(big.Int).Add(bigOf(constant), floorOf(new(big.Int).Mul(c, left), one))
	}
	n := -floor.Int64()
	if n >= 31 {
		return 0
	}
	return c.Int64() >> n
}

// weightsOf is the weights of scores by the chapter's words, in numbers of any size.
func weightsOf(scores ...*big.Int) []int64 {
	top := scores[0]
	for _, score := range scores {
		if score.Cmp(top) > 0 {
			top = score
		}
	}
	l := make([]int64, len(scores))
	for i, score := range scores {
		distance := new(big.Int).Sub(score, top)
		if distance.Cmp(bigOf(-far)) < 0 {
			distance = bigOf(-far)
		}
		l[i] = exp2Of(distance.Mul(distance, bigOf(256)))
	}
	return l
}

// bigs is numbers of any size.
func bigs(l []int64) []*big.Int {
	all := make([]*big.Int, len(l))
	for i, x := range l {
		all[i] = bigOf(x)
	}
	return all
}

// slopedOf is scores that are sloped by the chapter's words, in numbers of any size.
func slopedOf(scores []int64, slope int64) []*big.Int {
	all := bigs(scores)
	for i, x := range all {
		back := bigOf(int64(len(scores) - 1 - i))
		x.Sub(x, back.Mul(back, bigOf(slope)))
	}
	return all
}

// meanOf is a mean by the chapter's words, in numbers of any size.
func meanOf(w []int64, v []int8) int8 {
	sum, total := new(big.Int), new(big.Int)
	for i, x := range w {
		total.Add(total, bigOf(x))
		sum.Add(sum, new(big.Int).Mul(bigOf(x), bigOf(int64(v[i]))))
	}
	sum.Lsh(sum, 1).Add(sum, total)
	return int8(floorOf(sum, total.Lsh(total, 1)).Int64())
}

// mixedOf is a mixture by the chapter's words, in numbers of any size.
func mixedOf(a, b []int64, part int) []int64 {
	l := make([]int64, len(a))
	for i := range a {
		x := new(big.Int).Mul(bigOf(int64(65536-part)), bigOf(a[i]))
		x.Add(x, new(big.Int).Mul(bigOf(int64(part)), bigOf(b[i])))
		l[i] = floorOf(x, bigOf(65536)).Int64()
	}
	return l
}
