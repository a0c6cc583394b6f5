package act_test

import (
	"slices"
	"testing"

	"herald/act"
	"herald/api"
)

// spare is a list with room behind its end, which is filled too.
func spare[T any](fill T, l ...T) []T {
	room := append(make([]T, 0, 2*len(l)+4), l...)
	for i := len(l); i < cap(room); i++ {
		room[:cap(room)][i] = fill
	}
	return room
}

// entire is a list with what lies behind its end.
func entire[T any](l []T) []T { return l[:cap(l)] }

// spoil writes over a list, and over what lies behind its end.
func spoil[T any](l []T, with T) {
	for i := range entire(l) {
		entire(l)[i] = with
	}
}

// answers asks a call twice with the same list, and spoils what it answers, or what it was asked with: the rest stays.
func answers[U comparable](t *testing.T, what string, l []int8, call func(l []int8) ([]U, api.Errno)) {
	t.Helper()
	l = spare(9, l...)
	var zero U
	was := slices.Clone(entire(l))
	ok, stays := okay[[]U](t, what), is(t, what+": what was handed in", was)
	first, second := ok(call(l)), ok(call(l))
	stays(entire(l), api.OK)
	is(t, what+" again", first)(second, api.OK)
	kept := slices.Clone(second)
	spoil(first, zero)
	stays(entire(l), api.OK)
	is(t, what+": another answer", kept)(second, api.OK)
	is(t, what+" behind a change", kept)(call(l))
	taken := slices.Clone(l)
	third := ok(call(taken))
	spoil(taken, 0)
	is(t, what+" of what was changed since", kept)(third, api.OK)
}

// R4: what Table hands out is the caller's.
func TestTablesAreTheCallersOwn(t *testing.T) {
	for kind := 1; kind <= 3; kind++ {
		ok := okay[[]int8](t, "Table")
		first, second := ok(act.Table(kind)), ok(act.Table(kind))
		kept := slices.Clone(second)
		spoil(first, -1)
		is(t, "another answer", kept)(second, api.OK)
		is(t, "Table", kept)(act.Table(kind))
	}
}

// R4, R5
func TestListsAreTheCallersOwn(t *testing.T) {
	s := spread(13)
	for n := 1; n < 20; n++ {
		bend, gate, up := s.numbers(256), s.numbers(n), s.numbers(n)
		answers(t, "Gate by its bend", bend, func(l []int8) ([]int8, api.Errno) { return act.Gate(l, gate, up) })
		answers(t, "Gate", gate, func(l []int8) ([]int8, api.Errno) { return act.Gate(bend, l, up) })
		answers(t, "Gate by up", up, func(l []int8) ([]int8, api.Errno) { return act.Gate(bend, gate, l) })
		answers(t, "Gate of one list", up, func(l []int8) ([]int8, api.Errno) { return act.Gate(bend, l, l) })
		b, h := s.middle(n, 4, 3), s.numbers(n)
		b.DownS = 0
		answers(t, "Middle", h, func(l []int8) ([]int64, api.Errno) { return act.Middle(b, bend, l) })
		answers(t, "Middle by its bend", bend, func(l []int8) ([]int64, api.Errno) { return act.Middle(b, l, h) })
		answers(t, "Middle by Gate", b.Gate, func(l []int8) ([]int64, api.Errno) { b := b; b.Gate = l; return act.Middle(b, bend, h) })
		answers(t, "Middle by Up", b.Up, func(l []int8) ([]int64, api.Errno) { b := b; b.Up = l; return act.Middle(b, bend, h) })
		answers(t, "Middle by Down", b.Down, func(l []int8) ([]int64, api.Errno) { b := b; b.Down = l; return act.Middle(b, bend, h) })
	}
}

// places and weights are the one and the other answer of Choose.
func places(l []int, _ []int64, e api.Errno) ([]int, api.Errno)    { return l, e }
func weights(_ []int, w []int64, e api.Errno) ([]int64, api.Errno) { return w, e }

// R4, R5: of experts.
func TestExpertsAreTheCallersOwn(t *testing.T) {
	s := spread(14)
	for n := 1; n < 9; n++ {
		router, h, bend, b := s.numbers(3*n), s.numbers(n), s.numbers(256), s.middle(n, 4, 3)
		for k := 1; k <= 3; k++ {
			answers(t, "Choose", router, func(l []int8) ([]int, api.Errno) { return places(act.Choose(l, h, 2, k)) })
			answers(t, "Choose", router, func(l []int8) ([]int64, api.Errno) { return weights(act.Choose(l, h, 2, k)) })
			answers(t, "Choose by h", h, func(l []int8) ([]int, api.Errno) { return places(act.Choose(router, l, 2, k)) })
			answers(t, "Choose by h", h, func(l []int8) ([]int64, api.Errno) { return weights(act.Choose(router, l, 2, k)) })
			l := []api.Middle{b, s.middle(n, 2, 3), b}
			experts := func(router, bend, h []int8) ([]int64, api.Errno) { return act.Experts(router, 2, k, l, bend, h) }
			answers(t, "Experts", router, func(l []int8) ([]int64, api.Errno) { return experts(l, bend, h) })
			answers(t, "Experts by bend", bend, func(l []int8) ([]int64, api.Errno) { return experts(router, l, h) })
			answers(t, "Experts by h", h, func(l []int8) ([]int64, api.Errno) { return experts(router, bend, l) })
			answers(t, "Experts by Down", b.Down, func(down []int8) ([]int64, api.Errno) {
				b := b
				b.Down = down
				return act.Experts(router, 2, k, []api.Middle{b, b, b}, bend, h)
			})
		}
	}
}

// R4: behind what Choose chose, nothing of the others is left.
func TestNothingBehindTheChosen(t *testing.T) {
	l, w, _ := act.Choose(filled[int8](1000, 1), narrow(1), 0, 1)
	if cap(l) > 8 || cap(w) > 8 {
		t.Error("Choose", cap(l), cap(w))
	}
}

// R4: the list of middles stays, and what lies behind its end, whether it is refused or not.
func TestMiddlesStay(t *testing.T) {
	down := spare(9, narrow(1, 2)...)
	b := says(2)
	b.Down = down
	l := spare(says(2, 7), b, b)
	is(t, "Experts", wide(1, 2))(act.Experts(narrow(0, 0, 0, 0), 0, 2, l, cut(t), narrow(64, 1)))
	fails[int64](t, "Experts", api.ErrLengths)(act.Experts(narrow(0, 0, 0, 0), 0, 2, l[:3], cut(t), narrow(64, 1)))
	fails[int64](t, "Experts", api.ErrBend)(act.Experts(narrow(0, 0, 0, 0), 0, 2, l, nil, narrow(64, 1)))
	is(t, "Down", narrow(1, 2, 9, 9, 9, 9, 9, 9))(entire(down), api.OK)
	for i, b := range entire(l) {
		want := narrow(7)
		if i < 2 {
			want = narrow(1, 2)
		}
		is(t, "l", want)(b.Down, api.OK)
		is(t, "l", narrow(64, 0))(b.Gate, api.OK)
		is(t, "l", narrow(64, 0))(b.Up, api.OK)
		if b.GateS != 6 || b.UpS != 6 || b.DownS != 6 {
			t.Error("l", b)
		}
	}
}
