package rank_test

import (
	"math"
	"testing"

	"herald/rank"
)

// 7.1
func TestOrder(t *testing.T) {
	for name, c := range map[string]struct {
		l    []int64
		want []int
	}{
		"nil":              {nil, nil},
		"empty":            {[]int64{}, nil},
		"one":              {[]int64{-7}, []int{0}},
		"rising":           {[]int64{1, 2, 3, 4}, []int{3, 2, 1, 0}},
		"falling":          {[]int64{4, 3, 2, 1}, []int{0, 1, 2, 3}},
		"equal":            {[]int64{2, 2, 2, 2, 2}, []int{0, 1, 2, 3, 4}},
		"equal ones apart": {[]int64{1, 2, 1, 2, 1, 2}, []int{1, 3, 5, 0, 2, 4}},
		"the ends":         {[]int64{0, least, greatest, -1, least, 1, greatest}, []int{2, 6, 5, 0, 3, 1, 4}},
		"next to the ends": {[]int64{least, least + 1, greatest - 1, greatest}, []int{3, 2, 1, 0}},
		"less than wraps":  {[]int64{least, 1, greatest, -2}, []int{2, 1, 3, 0}},
	} {
		is(t, name, rank.Order(c.l), c.want...)
	}
}

// 7.1: lists of each length, held against the order's words.
func TestOrderByItsWords(t *testing.T) {
	for _, l := range someLists() {
		is(t, "Order", rank.Order(l), ordered(l)...)
	}
}

// 7.1: a list that is too long to be ordered slowly.
func TestOrderOfALongList(t *testing.T) {
	const n = 300000
	s := spread(3)
	l := s.list(n, -1000, 2000)
	order := rank.Order(l)
	each(t, "Order", order, n)
	for i := 1; i < n; i++ {
		if a, b := order[i-1], order[i]; l[a] < l[b] || l[a] == l[b] && a > b {
			t.Fatalf("%d ahead of %d", a, b)
		}
	}
}

// 7.1
func TestTop(t *testing.T) {
	l := []int64{3, 5, 3, -1, 5}
	all := []int{1, 4, 0, 2, 3}
	for k := 1; k <= 5; k++ {
		is(t, "Top", rank.Top(l, k), all[:k]...)
	}
	for _, k := range []int{math.MinInt, -5, -1, 0, 5, 6, 1000, math.MaxInt} {
		is(t, "Top of all", rank.Top(l, k), all...)
	}
	for _, k := range []int{math.MinInt, -1, 0, 1, 2, math.MaxInt} {
		is(t, "Top of nil", rank.Top(nil, k))
		is(t, "Top of nothing", rank.Top([]int64{}, k))
		is(t, "Top of one", rank.Top([]int64{least}, k), 0)
	}
	is(t, "Top of the ends", rank.Top([]int64{least, greatest, 0, greatest}, 3), 1, 3, 2)
}

// 7.5
func TestPlaces(t *testing.T) {
	is(t, "nil", rank.Places(nil))
	is(t, "empty", rank.Places([]int64{}))
	is(t, "one", rank.Places([]int64{greatest}), 0)
	is(t, "equal", rank.Places([]int64{6, 6, 6}), 0, 1, 2)
	is(t, "three", rank.Places([]int64{2, 1, 3}), 1, 2, 0)
	is(t, "round", rank.Places([]int64{1, 3, 2}), 2, 0, 1)
	is(t, "the ends", rank.Places([]int64{least, greatest, least, greatest, 0}), 3, 0, 4, 1, 2)
	for _, l := range someLists() {
		is(t, "Places", rank.Places(l), standing(len(l), func(i, j int) bool { return l[i] > l[j] })...)
	}
}
