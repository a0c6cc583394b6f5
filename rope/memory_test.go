package rope_test

import (
	"slices"
	"testing"

	"herald/api"
	"herald/rope"
)

// spare is a list with room behind its end, which is filled too.
func spare(l ...int8) []int8 {
	room := append(make([]int8, 0, 2*len(l)+4), l...)
	for i := len(l); i < cap(room); i++ {
		room[:cap(room)][i] = int8(50 + i)
	}
	return room
}

// whole is a list with what lies behind its end.
func whole[T any](l []T) []T { return l[:cap(l)] }

// spoil writes over a list, and over what lies behind its end.
func spoil(l []int8) {
	for i := range whole(l) {
		whole(l)[i] = 1 - whole(l)[i]
	}
}

// answers asks a call twice with the same list, and spoils what it answers: the list stays, and the other answer.
func answers(t *testing.T, what string, l []int8, call func(l []int8) ([]int8, api.Errno)) {
	t.Helper()
	was := slices.Clone(whole(l))
	ok, stays := okay(t, what), is(t, what+": what was handed in", was)
	first, second := ok(call(l)), ok(call(l))
	stays(whole(l), api.OK)
	is(t, what+" again", first)(second, api.OK)
	kept := slices.Clone(second)
	spoil(first)
	stays(whole(l), api.OK)
	is(t, what+": another answer", kept)(second, api.OK)
	is(t, what+" behind a change", kept)(call(l))
	taken := slices.Clone(l)
	third := ok(call(taken))
	spoil(taken)
	is(t, what+" of what was changed since", kept)(third, api.OK)
}

// cosines and sines hand on one list of two.
func cosines(cos, _ []int8, e api.Errno) ([]int8, api.Errno) { return cos, e }
func sines(_, sin []int8, e api.Errno) ([]int8, api.Errno)   { return sin, e }

// R4, R5
func TestListsAreTheCallersOwn(t *testing.T) {
	s := spread(8)
	for _, half := range []int{1, 2, 9, api.MaxHalf} {
		x, cos, sin := s.row(6*half), s.row(half), s.row(half)
		size := 2 * half
		answers(t, "Turn", spare(x...), func(x []int8) ([]int8, api.Errno) { return rope.Turn(x, size, cos, sin) })
		answers(t, "Turn by its cosines", spare(cos...), func(cos []int8) ([]int8, api.Errno) { return rope.Turn(x, size, cos, sin) })
		answers(t, "Turn by its sines", spare(sin...), func(sin []int8) ([]int8, api.Errno) { return rope.Turn(x, size, cos, sin) })
		answers(t, "Turn by one list for both", spare(cos...), func(cos []int8) ([]int8, api.Errno) { return rope.Turn(x, size, cos, cos) })
		answers(t, "Back", spare(x...), func(x []int8) ([]int8, api.Errno) { return rope.Back(x, size, cos, sin) })
		answers(t, "Back by its cosines", spare(cos...), func(cos []int8) ([]int8, api.Errno) { return rope.Back(x, size, cos, sin) })
		answers(t, "Back by its sines", spare(sin...), func(sin []int8) ([]int8, api.Errno) { return rope.Back(x, size, cos, sin) })
		answers(t, "Table's cosines", nil, func([]int8) ([]int8, api.Errno) { return cosines(rope.Table(5, half)) })
		answers(t, "Table's sines", nil, func([]int8) ([]int8, api.Errno) { return sines(rope.Table(5, half)) })
		answers(t, "Stretched's cosines", nil, func([]int8) ([]int8, api.Errno) { return cosines(rope.Stretched(5, half, 1, 2)) })
		answers(t, "Stretched's sines", nil, func([]int8) ([]int8, api.Errno) { return sines(rope.Stretched(5, half, 1, 2)) })
		longer, further := s.row(3*half), s.row(3*half)
		for place := range 3 {
			answers(t, "At's cosines", spare(longer...), func(l []int8) ([]int8, api.Errno) { return cosines(rope.At(l, further, half, place)) })
			answers(t, "At's sines", spare(further...), func(l []int8) ([]int8, api.Errno) { return sines(rope.At(longer, l, half, place)) })
			answers(t, "Rows by their cosines", spare(longer...), func(l []int8) ([]int8, api.Errno) {
				rows, _, e := rope.Rows([][]int8{x}, size, l, further, place)
				return slices.Concat(rows...), e
			})
			answers(t, "Rows by their sines", spare(further...), func(l []int8) ([]int8, api.Errno) {
				rows, _, e := rope.Rows([][]int8{x}, size, longer, l, place)
				return slices.Concat(rows...), e
			})
		}
	}
}

// R4: the two lists of one answer share nothing, also where one list was handed in for both.
func TestCosinesAndSinesAreTwoLists(t *testing.T) {
	both := spare(1, 2, 3, 4, 5, 6)
	for name, call := range map[string]func() ([]int8, []int8, api.Errno){
		"Table":     func() ([]int8, []int8, api.Errno) { return rope.Table(3, 3) },
		"Stretched": func() ([]int8, []int8, api.Errno) { return rope.Stretched(3, 3, 2, 3) },
		"At":        func() ([]int8, []int8, api.Errno) { return rope.At(both, both, 2, 1) },
	} {
		cos, sin, e := call()
		was := slices.Clone(sin)
		spoil(cos)
		is(t, name, was)(sin, e)
		_, again, e := call()
		is(t, name+" again", was)(again, e)
	}
	is(t, "what was handed in", whole(spare(1, 2, 3, 4, 5, 6)))(whole(both), api.OK)
}

// R4: the rows of an answer share nothing, and the list of rows stays.
func TestRowsAreTheCallersOwn(t *testing.T) {
	cos, sin, x := spare(64, 0, 64), spare(0, 64, 0), spare(3, 4)
	l := append(make([][]int8, 0, 5), x, x, narrow(1, -1))
	l[:4][3] = narrow(9)
	first, _, e := rope.Rows(l, 2, cos, sin, 0)
	second, _, f := rope.Rows(l, 2, cos, sin, 0)
	if len(first) != 3 || len(second) != 3 || e != api.OK || f != api.OK {
		t.Fatal("Rows", first, e, second, f)
	}
	spoil(first[0])
	is(t, "beside", narrow(-4, 3))(first[1], api.OK)
	is(t, "beside", narrow(1, -1))(first[2], api.OK)
	is(t, "another answer", narrow(3, 4))(second[0], api.OK)
	for i := range whole(first) {
		whole(first)[i] = nil
	}
	for i, want := range [][]int8{whole(spare(3, 4)), whole(spare(3, 4)), {1, -1}, {9}, nil} {
		is(t, "l", want)(whole(whole(l)[i]), api.OK)
	}
	is(t, "cosines", whole(spare(64, 0, 64)))(whole(cos), api.OK)
	is(t, "sines", whole(spare(0, 64, 0)))(whole(sin), api.OK)
	spoil(x)
	spoil(cos)
	is(t, "of what was changed since", narrow(3, 4))(second[0], api.OK)
}

// R4, R2: what is refused is not changed either.
func TestWhatIsRefusedStays(t *testing.T) {
	x, cos, sin := spare(1, 2, 3), spare(4, 5, 6), spare(7, 8)
	for size := -1; size <= 5; size++ {
		rope.Turn(x, size, cos, sin)
		rope.Back(x, size, cos, sin)
		rope.At(cos, sin, size, 0)
		rope.At(cos, cos, size, 7)
		rope.Rows([][]int8{x, x}, size, cos, sin, 0)
		rope.Rows([][]int8{cos, x, sin}, size, cos, cos, 1)
	}
	is(t, "x", whole(spare(1, 2, 3)))(whole(x), api.OK)
	is(t, "cosines", whole(spare(4, 5, 6)))(whole(cos), api.OK)
	is(t, "sines", whole(spare(7, 8)))(whole(sin), api.OK)
}
