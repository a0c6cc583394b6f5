package norm_test

import (
	"slices"
	"testing"

	"herald/api"
	"herald/norm"
)

// spare is a list with room behind its end, which is filled too.
func spare[T int8 | int64](l ...T) []T {
	room := append(make([]T, 0, 2*len(l)+4), l...)
	for i := len(l); i < cap(room); i++ {
		room[:cap(room)][i] = T(50 + i)
	}
	return room
}

// whole is a list with what lies behind its end.
func whole[T any](l []T) []T { return l[:cap(l)] }

// spoil writes over a list, and over what lies behind its end.
func spoil[T int8 | int64](l []T) {
	for i := range whole(l) {
		whole(l)[i] = 1 - whole(l)[i]
	}
}

// answers asks a call twice with the same list, and spoils what it answers: the list stays, and the other answer.
func answers[T, U int8 | int64](t *testing.T, what string, l []T, call func(l []T) ([]U, api.Errno)) {
	t.Helper()
	was := slices.Clone(whole(l))
	ok, stays := okay[[]U](t, what), is(t, what+": what was handed in", was)
	first, second := ok(call(l)), ok(call(l))
	stays(whole(l), api.OK)
	is(t, what+" again", first)(second, api.OK)
	kept := slices.Clone(second)
	spoil(first)
	stays(whole(l), api.OK)
	is(t, what+": another answer", kept)(second, api.OK)
	is(t, what+" behind a change", kept)(call(l))
	taken := slices.Clone(l)
	third := ok(call(taken))
	spoil(taken)
	is(t, what+" of what was changed since", kept)(third, api.OK)
}

// R4, R5
func TestListsAreTheCallersOwn(t *testing.T) {
	for _, l := range [][]int64{spare[int64](0), spare[int64](-7), spare[int64](3, -4, 4), spare(filled[int64](api.MaxDim, -most)...)} {
		n := len(l)
		gain, bias := filled[int8](n, 40), filled[int8](n, -3)
		answers(t, "Root", l, func(l []int64) ([]int64, api.Errno) { r, e := norm.Root(l); return wide(r), e })
		answers(t, "Row", l, func(l []int64) ([]int8, api.Errno) { return norm.Row(l, gain) })
		answers(t, "Center", l, func(l []int64) ([]int64, api.Errno) { c, _, e := norm.Center(l); return c, e })
		answers(t, "Layer", l, func(l []int64) ([]int8, api.Errno) { return norm.Layer(l, gain, bias) })
		answers(t, "Largest", l, func(l []int64) ([]int64, api.Errno) {
			x, at, e := norm.Largest(l)
			return wide(x, int64(at)), e
		})
		answers(t, "Row by its gain", spare(gain...), func(gain []int8) ([]int8, api.Errno) { return norm.Row(l, gain) })
		answers(t, "Layer by its gain", spare(gain...), func(gain []int8) ([]int8, api.Errno) { return norm.Layer(l, gain, bias) })
		answers(t, "Layer by its bias", spare(bias...), func(bias []int8) ([]int8, api.Errno) { return norm.Layer(l, gain, bias) })
		answers(t, "Layer by one list for both", spare(gain...), func(gain []int8) ([]int8, api.Errno) { return norm.Layer(l, gain, gain) })
	}
}

// R4: the rows of an answer share nothing, and the list of rows stays.
func TestRowsAreTheCallersOwn(t *testing.T) {
	x, gain := spare[int64](3, 4), spare[int8](64, 64)
	l := append(make([][]int64, 0, 5), x, x, wide(1, -1))
	l[:4][3] = wide(9)
	first, _, e := norm.Rows(l, gain)
	second, _, f := norm.Rows(l, gain)
	if len(first) != 3 || len(second) != 3 || e != api.OK || f != api.OK {
		t.Fatal("Rows", first, e, second, f)
	}
	spoil(first[0])
	is(t, "beside", narrow(64, 85))(first[1], api.OK)
	is(t, "beside", narrow(64, -64))(first[2], api.OK)
	is(t, "another answer", narrow(64, 85))(second[0], api.OK)
	for i := range whole(first) {
		whole(first)[i] = nil
	}
	for i, want := range [][]int64{whole(spare[int64](3, 4)), whole(spare[int64](3, 4)), {1, -1}, {9}, nil} {
		is(t, "l", want)(whole(whole(l)[i]), api.OK)
	}
	is(t, "gain", whole(spare[int8](64, 64)))(whole(gain), api.OK)
	spoil(x)
	spoil(gain)
	is(t, "of what was changed since", narrow(64, 85))(second[1], api.OK)
}

// R4, R2: what is refused is not changed either.
func TestWhatIsRefusedStays(t *testing.T) {
	for _, l := range [][]int64{spare[int64](), spare[int64](1, most+1), spare[int64](most, -most, -most), spare(filled[int64](api.MaxDim+1, 2)...)} {
		was := slices.Clone(whole(l))
		gain := spare(filled[int8](len(l), 5)...)
		gains := slices.Clone(whole(gain))
		norm.Root(l)
		norm.Row(l, gain)
		norm.Rows([][]int64{l, l}, gain)
		norm.Center(l)
		norm.Layer(l, gain, gain)
		norm.Largest(l)
		is(t, "row", was)(whole(l), api.OK)
		is(t, "gain", gains)(whole(gain), api.OK)
	}
}
