package rank_test

import (
	"math"
	"slices"
	"strings"
	"testing"

	"herald/rank"
)

// 7.1: things of several kinds.
func TestByOfSeveralKinds(t *testing.T) {
	shorter := func(a, b string) bool { return len(a) < len(b) }
	is(t, "texts", rank.By([]string{"bb", "a", "cc", "", "b"}, shorter), 3, 1, 4, 0, 2)
	is(t, "texts by letters", rank.By([]string{"b", "a", "c", "a"}, func(a, b string) bool { return a < b }), 1, 3, 0, 2)

	type pair struct{ a, b int }
	both := func(x, y pair) bool { return x.a < y.a || x.a == y.a && x.b > y.b }
	is(t, "structs", rank.By([]pair{{2, 1}, {1, 1}, {2, 3}, {1, 1}, {1, 2}}, both), 4, 1, 3, 2, 0)

	no, yes := false, true
	is(t, "bools", rank.By([]bool{no, yes, no, yes}, func(a, b bool) bool { return a && !b }), 1, 3, 0, 2)
	is(t, "pointers", rank.By([]*bool{&no, &yes, &no}, func(a, b *bool) bool { return *a && !*b }), 1, 0, 2)
	is(t, "floats", rank.By([]float64{0.5, math.Inf(1), -1, 0.5}, func(a, b float64) bool { return a > b }), 1, 0, 3, 2)
	is(t, "lists", rank.By([][]int{{1, 2}, nil, {3}}, func(a, b []int) bool { return len(a) < len(b) }), 1, 2, 0)
	is(t, "anything", rank.By([]any{1, "a", 2.5}, func(a, b any) bool { _, x := a.(string); _, y := b.(string); return x && !y }), 1, 0, 2)
	is(t, "calls", rank.By([]func() int{func() int { return 2 }, func() int { return 1 }}, func(a, b func() int) bool { return a() < b() }), 1, 0)
	is(t, "nothings", rank.By([]struct{}{{}, {}, {}}, func(a, b struct{}) bool { return false }), 0, 1, 2)
	is(t, "bytes", rank.By([]byte("hello"), func(a, b byte) bool { return a < b }), 1, 0, 2, 3, 4)
}

// 7.1: nothing, and one thing.
func TestByOfFew(t *testing.T) {
	never := func(a, b string) bool { return false }
	is(t, "nil", rank.By(nil, never))
	is(t, "empty", rank.By([]string{}, never))
	is(t, "one", rank.By([]string{"a"}, never), 0)
	is(t, "nil by nil", rank.By[int](nil, nil))
	is(t, "one by nil", rank.By([]string{"a"}, nil), 0)
}

// 7.1: a nil ahead puts none ahead.
func TestByNil(t *testing.T) {
	is(t, "numbers", rank.By([]int64{1, 3, 2}, nil), 0, 1, 2)
	is(t, "texts", rank.By([]string{"b", "a", "", "d"}, nil), 0, 1, 2, 3)
	for _, n := range []int{2, 31, 64, 1000} {
		is(t, "many", rank.By(make([]any, n), nil), counted(n)...)
		is(t, "none ahead", rank.By(make([]any, n), func(a, b any) bool { return false }), counted(n)...)
	}
}

// 7.1: orders in which many are neither ahead, held against the promise's words.
func TestByByItsWords(t *testing.T) {
	for name, ahead := range map[string]func(a, b int64) bool{
		"greater":      func(a, b int64) bool { return a > b },
		"less":         func(a, b int64) bool { return a < b },
		"third part":   func(a, b int64) bool { return a/3 > b/3 },
		"even first":   func(a, b int64) bool { return a&1 == 0 && b&1 == 1 },
		"the last two": func(a, b int64) bool { return a&3 < b&3 },
		"none":         func(a, b int64) bool { return false },
	} {
		for _, l := range someLists() {
			if len(l) > 130 {
				continue
			}
			order := rank.By(l, ahead)
			each(t, name, order, len(l))
			places := make([]int, len(l))
			for at, place := range order {
				places[place] = at
			}
			is(t, name, places, standing(len(l), func(i, j int) bool { return ahead(l[i], l[j]) })...)
		}
	}
}

// 7.1: what is no order is gone through to its end all the same, and each place is told once.
func TestByWhatIsNoOrder(t *testing.T) {
	s := spread(5)
	calls := 0
	for name, ahead := range map[string]func(a, b int64) bool{
		"always":         func(a, b int64) bool { return true },
		"as great too":   func(a, b int64) bool { return a >= b },
		"not the same":   func(a, b int64) bool { return a != b },
		"the same":       func(a, b int64) bool { return a == b },
		"round in three": func(a, b int64) bool { return (a-b)%3 == 1 || (a-b)%3 == -2 },
		"far enough":     func(a, b int64) bool { return a > b+1 },
		"by chance":      func(a, b int64) bool { return s.below(2) == 0 },
		"by turns":       func(a, b int64) bool { calls++; return calls%2 == 0 },
	} {
		for _, l := range someLists() {
			each(t, name, rank.By(l, ahead), len(l))
		}
	}
	none := math.NaN()
	each(t, "no numbers", rank.By([]float64{none, 2, none, 1, 3, none, 0}, func(a, b float64) bool { return a > b }), 7)
}

// 7.1, R1: an ahead that panics is no order either, at whichever call it does.
func TestByWhatPanics(t *testing.T) {
	is(t, "one is not asked", rank.By([]int{5}, func(a, b int) bool { panic("asked") }), 0)
	for _, n := range []int{2, 3, 9, 40} {
		l := spread(n).things(n)
		for at := range 6 * n {
			calls := 0
			each(t, "panics", rank.By(l, func(a, b string) bool {
				if calls++; calls > at {
					panic(nil)
				}
				return a < b
			}), n)
		}
	}
	each(t, "a nil map", rank.By([]int{1, 2, 3}, func(a, b int) bool { var m map[int]int; m[a] = b; return true }), 3)
	each(t, "beyond a list", rank.By([]int{1, 2, 3}, func(a, b int) bool { return []bool{}[a] }), 3)
}

// things is n texts.
func (s spread) things(n int) []string {
	l := make([]string, n)
	for i := range l {
		l[i] = strings.Repeat("a", s.below(9))
	}
	return l
}

// 7.1: ahead is asked of things of the list alone.
func TestByAsksOfItsThingsAlone(t *testing.T) {
	for _, n := range []int{2, 5, 33, 100} {
		l := make([]int, n, 2*n+3)
		for i := range l[:cap(l)] {
			l[:cap(l)][i] = (i*7+3)%n + 1
			if i >= n {
				l[:cap(l)][i] = -i
			}
		}
		rank.By(l, func(a, b int) bool {
			if !slices.Contains(l, a) || !slices.Contains(l, b) {
				t.Errorf("of %d: asked of %d, %d", n, a, b)
			}
			return a < b
		})
	}
}

// R5: By within By: calls know nothing of one another.
func TestByWithinBy(t *testing.T) {
	rows := [][]int64{{1, 9}, {7}, {2, 3, 8}, {9, 1}}
	top := func(l []int64) int64 { return l[rank.By(l, func(a, b int64) bool { return a > b })[0]] }
	is(t, "rows", rank.By(rows, func(a, b []int64) bool { return top(a) > top(b) }), 0, 3, 2, 1)
}
