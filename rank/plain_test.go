package rank_test

import (
	"math"
	"math/big"
	"slices"
	"testing"

	"herald/api"
)

// least and greatest are the ends of the numbers of 64 bits.
const (
	least    = math.MinInt64
	greatest = math.MaxInt64
)

// is asks for just these elements.
func is[T comparable](t *testing.T, what string, got []T, want ...T) {
	t.Helper()
	if !slices.Equal(got, want) {
		t.Errorf("%s: %v and not %v", what, got, want)
	}
}

// fails asks for an error, and for nothing beside it.
func fails[T any](t *testing.T, what string, got []T, e, want api.Errno) {
	t.Helper()
	if len(got) != 0 || e != want {
		t.Errorf("%s: %v, %d and not %d", what, got, e, want)
	}
}

// okay asks for no error, and hands the answer on.
func okay[T any](t *testing.T, what string) func(got []T, e api.Errno) []T {
	return func(got []T, e api.Errno) []T {
		t.Helper()
		if e != api.OK {
			t.Fatalf("%s: %d", what, e)
		}
		return got
	}
}

// each asks for places that tell each of so many once.
func each(t *testing.T, what string, places []int, n int) {
	t.Helper()
	sorted := slices.Clone(places)
	slices.Sort(sorted)
	is(t, what, sorted, counted(n)...)
}

// counted is 0, 1, 2 and so on, n of them.
func counted(n int) []int {
	l := make([]int, n)
	for i := range l {
		l[i] = i
	}
	return l
}

// filled is n times a number.
func filled(n int, w int64) []int64 { return slices.Repeat([]int64{w}, n) }

// standing is how many places stand ahead of each, by the words of the order.
func standing(n int, ahead func(i, j int) bool) []int {
	l := make([]int, n)
	for i := range n {
		for j := range n {
			if ahead(j, i) || !ahead(i, j) && j < i {
				l[i]++
			}
		}
	}
	return l
}

// ordered is the order by its words: each place stands behind as many as stand ahead of it.
func ordered(l []int64) []int {
	order := make([]int, len(l))
	for place, n := range standing(len(l), func(i, j int) bool { return l[i] > l[j] }) {
		order[n] = place
	}
	return order
}

// times is a product of any size.
func times(a, b int64) *big.Int { return new(big.Int).Mul(big.NewInt(a), big.NewInt(b)) }

// total is the sum of numbers that is no more than an int64.
func total(l []int64) int64 {
	var sum int64
	for _, w := range l {
		sum += w
	}
	return sum
}

// noWeights is lists that are no weights.
func noWeights() map[string][]int64 {
	return map[string][]int64{
		"below 0":                {-1},
		"the least":              {least},
		"one more than may be":   {api.MaxWeight + 1},
		"the greatest":           {greatest},
		"below 0 among others":   {3, 5, -1, 4},
		"too great among others": {3, 5, 4, api.MaxWeight + 1},
		"a sum of 0":             {-1, 1},
		"a sum that wraps to 0":  {least, least},
		"a sum that wraps":       {greatest, greatest, 4},
		"below 0 behind 0s":      {0, 0, -1},
		"too many":               filled(api.MaxWeights+1, 1),
		"too many 0s":            filled(api.MaxWeights+1, 0),
		"the last of the most":   append(filled(api.MaxWeights-1, 0), -7),
	}
}

// noSums is weights whose sum is 0.
func noSums() map[string][]int64 {
	return map[string][]int64{"nil": nil, "empty": {}, "0": {0}, "0 0 0": {0, 0, 0}, "the most": filled(api.MaxWeights, 0)}
}

// spread is numbers from 0 to less than a bound, in no order that the eye could tell, always the same ones.
type spread uint64

func (s *spread) below(bound int) int {
	*s = *s*6364136223846793005 + 1442695040888963407
	return int(*s>>33) % bound
}

// list is n numbers from low on, less than low and the bound.
func (s *spread) list(n, low, bound int) []int64 {
	l := make([]int64, n)
	for i := range l {
		l[i] = int64(low + s.below(bound))
	}
	return l
}

// someLists is lists of each length up to 40 and some greater ones, with many equal numbers and with few.
func someLists() [][]int64 {
	s := spread(7)
	var all [][]int64
	for n := range 40 {
		all = append(all, s.list(n, -1, 3), s.list(n, -500, 1000), filled(n, 4))
	}
	for _, n := range []int{63, 64, 65, 127, 128, 129, 700} {
		all = append(all, s.list(n, -2, 5), s.list(n, -1<<30, 1<<31-1))
	}
	return append(all, []int64{least, greatest, 0, greatest, least, -1, 1, least})
}

// someWeights is weights of some lengths, with 0s and without, the least and the greatest ones.
func someWeights() [][]int64 {
	s := spread(8)
	all := [][]int64{{1}, {api.MaxWeight}, {0, api.MaxWeight}, {1, api.MaxWeight}, {api.MaxWeight, 1, api.MaxWeight}}
	for n := 1; n < 30; n++ {
		for _, bound := range []int{2, 7, 100, api.MaxWeight} {
			all = append(all, append(s.list(n, 0, bound), 1), s.list(n, 1, bound))
		}
	}
	most := s.list(api.MaxWeights, 0, api.MaxWeight+1)
	return append(all, most, filled(api.MaxWeights, api.MaxWeight), filled(api.MaxWeights, 1))
}
