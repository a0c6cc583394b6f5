package rank_test

import (
	"slices"
	"testing"

	"herald/rank"
)

// spare is a list with room behind its end, which is filled too.
func spare(l ...int64) []int64 {
	room := append(make([]int64, 0, 2*len(l)+4), l...)
	for i := len(l); i < cap(room); i++ {
		room[:cap(room)][i] = int64(-100 - i)
	}
	return room
}

// whole is a list with what lies behind its end.
func whole[T any](l []T) []T { return l[:cap(l)] }

// spoil writes over a list, and over what lies behind its end.
func spoil[T any](l []T, by T) {
	for i := range whole(l) {
		whole(l)[i] = by
	}
}

// answers asks a call twice with the same list, and spoils what it answers: the list stays, and the other answer.
func answers[T comparable](t *testing.T, what string, l []int64, by T, call func(l []int64) []T) {
	t.Helper()
	was := slices.Clone(whole(l))
	first, second := call(l), call(l)
	is(t, what, whole(l), was...)
	is(t, what+" again", second, first...)
	kept := slices.Clone(second)
	spoil(first, by)
	is(t, what+" behind a change", whole(l), was...)
	is(t, what+" behind a change", second, kept...)
	is(t, what+" behind a change, again", call(l), kept...)
	taken := slices.Clone(l)
	third := call(taken)
	spoil(taken, -1)
	is(t, what+" of what was changed since", third, kept...)
}

// R4, R5: lists that are handed in stay as they are, and those that are handed out are the caller's own.
func TestListsAreTheCallersOwn(t *testing.T) {
	for _, l := range [][]int64{spare(), spare(4), spare(9, 5, 3), spare(3, 5, 3, 1, 0, 5), spare(1, 2, 3, 4, 5, 6, 7, 8, 9), spare(2, 2)} {
		answers(t, "Order", l, -1, rank.Order)
		answers(t, "Places", l, -1, rank.Places)
		for _, k := range []int{0, 1, 2, 9} {
			answers(t, "Top", l, -1, func(l []int64) []int { return rank.Top(l, k) })
		}
		answers(t, "By", l, -1, func(l []int64) []int { return rank.By(l, func(a, b int64) bool { return a < b }) })
		answers(t, "By nil", l, -1, func(l []int64) []int { return rank.By(l, nil) })
		answers(t, "By what panics", l, -1, func(l []int64) []int { return rank.By(l, func(a, b int64) bool { panic(a) }) })
		for _, part := range []int{1, 30000, 65536} {
			answers(t, "Nucleus", l, -1, func(l []int64) []int { x, _ := rank.Nucleus(l, part); return x })
			answers(t, "Share", l, -1, func(l []int64) []int64 { x, _ := rank.Share(l, int64(part)); return x })
		}
		answers(t, "Normal", l, -1, func(l []int64) []int64 { x, _ := rank.Normal(l); return x })
		answers(t, "Histogram", l, -1, func(l []int64) []int { x, _ := rank.Histogram(l, []int64{2, 5}); return x })
		answers(t, "edges", l, -1, func(l []int64) []int { x, _ := rank.Histogram([]int64{7, 2, 5}, l); return x })
		answers(t, "Merge", l, -1, func(l []int64) []int64 { x, _ := rank.Merge([][]int64{l}); return x })
		answers(t, "Merge with others", l, -1, func(l []int64) []int64 { x, _ := rank.Merge([][]int64{l, nil, l, {4}}); return x })
		answers(t, "Quantile", l, -1, func(l []int64) []int64 { x, _ := rank.Quantile(l, 1, 2); return []int64{x} })
		answers(t, "Inversions", l, -1, func(l []int64) []int { return []int{rank.Inversions(l)} })
	}
}

// R4: the list of lists stays, too.
func TestMergeLeavesItsLists(t *testing.T) {
	lists := append(make([][]int64, 0, 9), spare(5, 1), nil, spare(9), spare(), spare(7, 7))
	behind := whole(lists)
	behind[5], behind[6] = []int64{1}, []int64{2}
	got := okay[int64](t, "Merge")(rank.Merge(lists))
	is(t, "Merge", got, 9, 7, 7, 5, 1)
	spoil(got, -1)
	for i, want := range [][]int64{spare(5, 1), nil, spare(9), spare(), spare(7, 7), {1}, {2}, nil, nil} {
		is(t, "list", whole(behind[i]), whole(want)...)
	}
}
