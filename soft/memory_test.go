package soft_test

import (
	"slices"
	"testing"

	"herald/api"
	"herald/soft"
)

// spare is a list with room behind its end, which is filled too.
func spare[T any](fill T, l ...T) []T {
	room := append(make([]T, 0, 2*len(l)+4), l...)
	for i := len(l); i < cap(room); i++ {
		room[:cap(room)][i] = fill
	}
	return room
}

// entire is a list with what lies behind its end.
func entire[T any](l []T) []T { return l[:cap(l)] }

// spoil writes over a list, and over what lies behind its end.
func spoil[T any](l []T, with T) {
	for i := range entire(l) {
		entire(l)[i] = with
	}
}

// answers asks a call twice with the same list, and spoils what it answers, or what it was asked with: the rest stays.
func answers[T, U comparable](t *testing.T, what string, l []T, call func(l []T) ([]U, api.Errno)) {
	t.Helper()
	var other T
	var zero U
	was := slices.Clone(entire(l))
	ok, stays := okay[[]U](t, what), is(t, what+": what was handed in", was)
	first, second := ok(call(l)), ok(call(l))
	stays(entire(l), api.OK)
	is(t, what+" again", first)(second, api.OK)
	kept := slices.Clone(second)
	spoil(first, zero)
	stays(entire(l), api.OK)
	is(t, what+": another answer", kept)(second, api.OK)
	is(t, what+" behind a change", kept)(call(l))
	taken := slices.Clone(l)
	third := ok(call(taken))
	spoil(taken, other)
	is(t, what+" of what was changed since", kept)(third, api.OK)
}

// R4, R5
func TestListsAreTheCallersOwn(t *testing.T) {
	s := spread(15)
	for _, n := range sizes() {
		scores, let, a, b := s.scores(n, 3000), filled(n, true), s.weights(n, whole), s.weights(n, whole)
		answers(t, "Weights", spare(9, scores...), soft.Weights)
		answers(t, "Masked", spare(9, scores...), func(l []int64) ([]int64, api.Errno) { return soft.Masked(l, let) })
		answers(t, "Masked by its mask", spare(true, let...), func(l []bool) ([]int64, api.Errno) { return soft.Masked(scores, l) })
		answers(t, "Sloped", spare(9, scores...), func(l []int64) ([]int64, api.Errno) { return soft.Sloped(l, 3) })
		answers(t, "Sloped by nothing", spare(9, scores...), func(l []int64) ([]int64, api.Errno) { return soft.Sloped(l, 0) })
		for _, part := range []int{0, 1000, 65536} {
			answers(t, "Mix of a", spare(9, a...), func(l []int64) ([]int64, api.Errno) { return soft.Mix(l, b, part) })
			answers(t, "Mix of b", spare(9, b...), func(l []int64) ([]int64, api.Errno) { return soft.Mix(a, l, part) })
			answers(t, "Mix of one list", spare(9, a...), func(l []int64) ([]int64, api.Errno) { return soft.Mix(l, l, part) })
		}
		rows := filled(n, s.numbers(4))
		answers(t, "Means by their weights", spare(9, a...), func(l []int64) ([]int8, api.Errno) { return soft.Means(l, rows) })
		answers(t, "Means by a row", spare(9, s.numbers(4)...), func(l []int8) ([]int8, api.Errno) { return soft.Means(a, with(rows, 0, l)) })
		answers(t, "Means of one row", spare(9, s.numbers(4)...), func(l []int8) ([]int8, api.Errno) { return soft.Means(wide(1), [][]int8{l}) })
		v := s.numbers(n)
		answers(t, "Mean by its weights", spare(9, a...), func(l []int64) ([]int8, api.Errno) { return alone(soft.Mean(l, v)) })
		answers(t, "Mean", spare(9, v...), func(l []int8) ([]int8, api.Errno) { return alone(soft.Mean(a, l)) })
		answers(t, "Best by its weights", spare(9, a...), func(l []int64) ([]int, api.Errno) { return both(soft.Best(l, v)) })
		answers(t, "Best", spare(9, v...), func(l []int8) ([]int, api.Errno) { return both(soft.Best(a, l)) })
	}
}

// alone and both are numbers as a list.
func alone(x int8, e api.Errno) ([]int8, api.Errno)       { return narrow(x), e }
func both(x int8, at int, e api.Errno) ([]int, api.Errno) { return []int{int(x), at}, e }

// R4: the list of rows stays, and what lies behind its end.
func TestRowsStay(t *testing.T) {
	row := spare(9, narrow(1, 2)...)
	rows := spare(narrow(7), row, row)
	is(t, "Means", narrow(1, 2))(soft.Means(wide(1, 1), rows))
	fails[int8](t, "Means", api.ErrMean)(soft.Means(wide(0, 0), rows))
	fails[int8](t, "Means", api.ErrArg)(soft.Means(wide(0, 0, 0), rows[:3]))
	is(t, "the row", narrow(1, 2, 9, 9, 9, 9, 9, 9))(entire(row), api.OK)
	for i, l := range entire(rows) {
		want := narrow(7)
		if i < 2 {
			want = narrow(1, 2)
		}
		is(t, "rows", want)(l, api.OK)
	}
}

// R4, R2: what is refused is not changed either.
func TestWhatIsRefusedStays(t *testing.T) {
	w, v, let := spare(9, wide(far+1, -1)...), spare(9, narrow(3, 4, 5)...), spare(true, false, false)
	soft.Mean(w, v)
	soft.Mean(w, v[:2])
	soft.Best(w, v)
	soft.Best(w, v[:2])
	soft.Means(w, [][]int8{v, v})
	soft.Means(w, [][]int8{v, v[:1]})
	soft.Masked(w, let)
	soft.Masked(w, let[:1])
	soft.Sloped(w, 1)
	soft.Sloped(w[1:], -1)
	soft.Mix(w, w, 3)
	soft.Mix(w, w, -3)
	is(t, "w", wide(far+1, -1, 9, 9, 9, 9, 9, 9))(entire(w), api.OK)
	is(t, "v", narrow(3, 4, 5, 9, 9, 9, 9, 9, 9, 9))(entire(v), api.OK)
	is(t, "mask", []bool{false, false, true, true, true, true, true, true})(entire(let), api.OK)
}
