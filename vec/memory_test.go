package vec_test

import (
	"slices"
	"testing"

	"herald/api"
	"herald/vec"
)

// spare is a list with room behind its end, which is filled too.
func spare[T int8 | int64 | byte](l ...T) []T {
	room := append(make([]T, 0, 2*len(l)+4), l...)
	for i := len(l); i < cap(room); i++ {
		room[:cap(room)][i] = T(50 + i)
	}
	return room
}

// whole is a list with what lies behind its end.
func whole[T any](l []T) []T { return l[:cap(l)] }

// spoil writes over a list, and over what lies behind its end.
func spoil[T int8 | int64 | byte](l []T) {
	for i := range whole(l) {
		whole(l)[i] = 1 - whole(l)[i]
	}
}

// answers asks a call twice with the same list, and spoils what it answers: the list stays, and the other answer.
func answers[T, U int8 | int64 | byte](t *testing.T, what string, l []T, call func(l []T) ([]U, api.Errno)) {
	t.Helper()
	was := slices.Clone(whole(l))
	ok, stays := okay[[]U](t, what), is(t, what+": what was handed in", was)
	first, second := ok(call(l)), ok(call(l))
	stays(whole(l), api.OK)
	is(t, what+" again", first)(second, api.OK)
	kept := slices.Clone(second)
	spoil(first)
	stays(whole(l), api.OK)
	is(t, what+": another answer", kept)(second, api.OK)
	is(t, what+" behind a change", kept)(call(l))
	taken := slices.Clone(l)
	third := ok(call(taken))
	spoil(taken)
	is(t, what+" of what was changed since", kept)(third, api.OK)
}

// R4, R5: rows and matrices.
func TestListsAreTheCallersOwn(t *testing.T) {
	for _, l := range [][]int8{spare[int8](), spare[int8](4, -3), spare[int8](1, 2, 3, 4, 5, -128), spare(every()...)} {
		row := func(n int) []int8 { return filled[int8](n, 3) }
		answers(t, "Times", l, func(l []int8) ([]int64, api.Errno) { return vec.Times(l, 2, row(2)) })
		answers(t, "Sizes", l, func(l []int8) ([]int64, api.Errno) { return vec.Sizes(l, 2) })
		answers(t, "Widen", l, func(l []int8) ([]int64, api.Errno) { return vec.Widen(l, 3) })
		answers(t, "Widen by 0", l, func(l []int8) ([]int64, api.Errno) { return vec.Widen(l, 0) })
		answers(t, "Product by a", l, func(l []int8) ([]int64, api.Errno) { return vec.Product(l, 2, narrow(1, 0, 0, 1), 2) })
		answers(t, "Dot", l, func(l []int8) ([]int64, api.Errno) { n, e := vec.Dot(l, l); return wide(n), e })
		for _, cols := range []int{1, 2, max(2, len(l))} {
			answers(t, "Transpose", l, func(l []int8) ([]int8, api.Errno) { return vec.Transpose(l, cols) })
		}
		if len(l) == 0 {
			continue
		}
		answers(t, "Times by x", l, func(l []int8) ([]int64, api.Errno) { return vec.Times(row(3*len(l)), len(l), l) })
		answers(t, "Product by b", l, func(l []int8) ([]int64, api.Errno) { return vec.Product(row(len(l)), len(l)/2, l, 2) })
		for i := range len(l) / 2 {
			answers(t, "Row", l, func(l []int8) ([]int8, api.Errno) { return vec.Row(l, 2, i) })
		}
		answers(t, "Row of one", l, func(l []int8) ([]int8, api.Errno) { return vec.Row(l, len(l), 0) })
	}
}

// R4, R5: lists of 64 bits, by a shift of 0, too.
func TestWideListsAreTheCallersOwn(t *testing.T) {
	for _, l := range [][]int64{spare[int64](), spare[int64](4), spare[int64](1<<40, -9, 7, 0, -1<<50)} {
		answers(t, "Add", l, func(l []int64) ([]int64, api.Errno) { return vec.Add(l, make([]int64, len(l))) })
		answers(t, "Add the other way", l, func(l []int64) ([]int64, api.Errno) { return vec.Add(make([]int64, len(l)), l) })
		answers(t, "Add to itself", l, func(l []int64) ([]int64, api.Errno) { return vec.Add(l, l) })
		for _, shift := range []int{0, 1, 40} {
			answers(t, "Scale", l, func(l []int64) ([]int64, api.Errno) { return vec.Scale(l, shift) })
			answers(t, "Shrink", l, func(l []int64) ([]int8, api.Errno) { return vec.Shrink(l, shift) })
		}
	}
}

// R4: the rows of a Batch share nothing, and the list of rows stays.
func TestBatchIsTheCallersOwn(t *testing.T) {
	w, x := spare[int8](1, 2, 3, 4, 5, 6), spare[int8](1, -1)
	xs := append(make([][]int8, 0, 5), x, x, narrow(0, 1))
	xs[:4][3] = narrow(9)
	ok := okay[[][]int64](t, "Batch")
	first, second := ok(vec.Batch(w, 2, xs)), ok(vec.Batch(w, 2, xs))
	spoil(first[0])
	is(t, "beside", wide(-1, -1, -1))(first[1], api.OK)
	is(t, "beside", wide(2, 4, 6))(first[2], api.OK)
	is(t, "another answer", wide(-1, -1, -1))(second[0], api.OK)
	for i := range whole(first) {
		whole(first)[i] = nil
	}
	is(t, "w", whole(spare[int8](1, 2, 3, 4, 5, 6)))(whole(w), api.OK)
	for i, want := range [][]int8{whole(spare[int8](1, -1)), whole(spare[int8](1, -1)), {0, 1}, {9}, nil} {
		is(t, "xs", want)(whole(whole(xs)[i]), api.OK)
	}
	spoil(w)
	spoil(x)
	is(t, "of what was changed since", wide(-1, -1, -1))(second[1], api.OK)
}

// R4, R5: packed numbers, going in and coming out.
func TestPackedIsTheCallersOwn(t *testing.T) {
	for _, l := range [][]int8{spare[int8](), spare[int8](4), spare[int8](1, -2, 100), spare(every()...)} {
		for _, group := range []int{1, 2, 256} {
			answers(t, "Shifts", l, func(l []int8) ([]byte, api.Errno) { p, e := vec.Pack(l, group); return p.Shifts, e })
			answers(t, "Halves", l, func(l []int8) ([]byte, api.Errno) { p, e := vec.Pack(l, group); return p.Halves, e })
			p := okay[api.Packed](t, "Pack")(vec.Pack(l, group))
			kept := slices.Clone(p.Halves)
			spoil(p.Shifts)
			is(t, "Halves beside Shifts", kept)(p.Halves, api.OK)
		}
	}
	p := rightPacked()
	p.Shifts, p.Halves = spare(p.Shifts...), spare(p.Halves...)
	shifts := func(l []byte) api.Packed { return api.Packed{Count: 3, Group: 2, Shifts: l, Halves: p.Halves} }
	halves := func(l []byte) api.Packed { return api.Packed{Count: 3, Group: 2, Shifts: p.Shifts, Halves: l} }
	answers(t, "Unpack by Shifts", p.Shifts, func(l []byte) ([]int8, api.Errno) { return vec.Unpack(shifts(l)) })
	answers(t, "Unpack by Halves", p.Halves, func(l []byte) ([]int8, api.Errno) { return vec.Unpack(halves(l)) })
	answers(t, "TimesPacked by Shifts", p.Shifts, func(l []byte) ([]int64, api.Errno) { return vec.TimesPacked(shifts(l), 1, narrow(2)) })
	answers(t, "TimesPacked by Halves", p.Halves, func(l []byte) ([]int64, api.Errno) { return vec.TimesPacked(halves(l), 1, narrow(2)) })
	answers(t, "TimesPacked by x", spare[int8](1, 2, 3), func(l []int8) ([]int64, api.Errno) { return vec.TimesPacked(p, 3, l) })
}
