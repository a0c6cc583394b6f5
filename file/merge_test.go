package file_test

import (
	"fmt"
	"math"
	"testing"

	"herald/api"
	"herald/file"
)

// merges asks whether Merge answers what the chapter's words say of adapters that fit.
func merges(t *testing.T, what string, m api.Model, l []api.Adapter) {
	t.Helper()
	n, at, e := file.Merge(m, l)
	if at != 0 || e != api.OK || !isSame(n, merged(m, l)) {
		t.Errorf("%s: Merge: %d, %d, or another model", what, at, e)
	}
}

// refusesAdapters asks for an error of Merge, and its place.
func refusesAdapters(t *testing.T, what string, m api.Model, l []api.Adapter, want int, err api.Errno) {
	t.Helper()
	n, at, e := file.Merge(m, l)
	noModel(t, what, err)(n, e)
	if at != want {
		t.Errorf("%s: at %d and not %d", what, at, want)
	}
}

// adapter is any adapter that fits.
func adapter(s *spread, sh api.Shape) api.Adapter {
	a := api.Adapter{Block: s.below(sh.Layers), Part: 1 + s.below(4), Rank: 1 + s.below(16), Shift: s.below(20)}
	a.A, a.B = s.numbers(a.Rank*sh.Dim), s.numbers(sh.Dim*a.Rank)
	return a
}

// 17.5
func TestMerge(t *testing.T) {
	s := spread(10)
	for _, sh := range shapes() {
		m := wild(t, &s, sh)
		for _, b := range m.Blocks {
			b.O[0] = 100
		}
		merges(t, "none", m, nil)
		for n := range 5 {
			var l []api.Adapter
			for range n {
				l = append(l, adapter(&s, sh))
			}
			merges(t, fmt.Sprint(n, " of ", sh), m, l)
		}
	}
}

// 17.5: each part of each block, each rank and each shift.
func TestMergeOfEach(t *testing.T) {
	s, sh := spread(11), two()
	m := wild(t, &s, sh)
	for block := range 2 {
		for part := 1; part <= 4; part++ {
			for rank := 1; rank <= 16; rank++ {
				a := api.Adapter{Block: block, Part: part, Rank: rank, Shift: 7, A: s.numbers(rank * 8), B: s.numbers(8 * rank)}
				merges(t, fmt.Sprint("rank ", rank), m, []api.Adapter{a})
			}
		}
	}
	for shift := range 32 {
		a := adapter(&s, sh)
		a.Shift = shift
		merges(t, fmt.Sprint("shift ", shift), m, []api.Adapter{a})
	}
}

// 17.5: of two whole numbers that are as near the even one; and what is brought within 8 bits.
func TestMergeRoundsAndNarrows(t *testing.T) {
	m := sampled(t, tiny(), 12)
	is := func(was, a, b int8, rank, shift int, want int8) {
		t.Helper()
		for part := 1; part <= 4; part++ {
			x := copyOf(m)
			matrix := [][]int8{nil, x.Blocks[0].Q, x.Blocks[0].K, x.Blocks[0].V, x.Blocks[0].O}[part]
			matrix[0], matrix[1], matrix[2], matrix[3] = was, was, was, was
			n, at, e := file.Merge(x, []api.Adapter{{Part: part, Rank: rank, Shift: shift, A: filled(2*rank, a), B: filled(2*rank, b)}})
			if at != 0 || e != api.OK {
				t.Fatal("Merge", at, e)
			}
			now := [][]int8{nil, n.Blocks[0].Q, n.Blocks[0].K, n.Blocks[0].V, n.Blocks[0].O}[part]
			for _, x := range now {
				if x != want {
					t.Errorf("%d and %d of %d times %d by %d: %d and not %d", was, rank, a, b, shift, x, want)
				}
			}
		}
	}
	is(10, 1, 1, 1, 1, 10)
	is(10, 3, 1, 1, 1, 12)
	is(11, 1, 1, 1, 1, 11)
	is(10, -1, 1, 1, 1, 10)
	is(10, 1, -3, 1, 1, 8)
	is(10, 5, 1, 1, 2, 11)
	is(10, 1, 1, 3, 1, 12)
	is(127, 1, 1, 1, 0, 127)
	is(-127, 1, -1, 1, 0, -127)
	is(-128, 1, -1, 1, 0, -127)
	is(-128, 1, 1, 1, 0, -127)
	is(-128, 1, 2, 1, 0, -126)
	is(0, -128, -128, 16, 0, 127)
	is(0, -128, 127, 16, 0, -127)
	is(0, -128, -128, 16, 12, 64)
	is(0, -128, -128, 16, 19, 0)
	is(1, -128, -128, 16, 18, 2)
	is(0, -128, -128, 16, 31, 0)
	is(127, -128, 2, 1, 0, -127)
}

// 17.5: rows are B's, columns are A's.
func TestMergeOfRowsAndColumns(t *testing.T) {
	m := sampled(t, two(), 13)
	for _, b := range m.Blocks {
		clear(b.V)
	}
	a := api.Adapter{Block: 1, Part: api.AdaptV, Rank: 2, A: filled(16, int8(0)), B: filled(16, int8(0))}
	a.A[8+3], a.B[5*2+1] = 7, 2
	n, _, e := file.Merge(m, []api.Adapter{a})
	for i, x := range n.Blocks[1].V {
		want := int8(0)
		if i == 5*8+3 {
			want = 14
		}
		if x != want || n.Blocks[0].V[i] != 0 || e != api.OK {
			t.Error("Merge", i, x, e)
		}
	}
}

// 17.5: one behind the other, so that what was brought within 8 bits is so for the next one.
func TestMergeOfMoreThanOne(t *testing.T) {
	m := sampled(t, tiny(), 14)
	clear(m.Blocks[0].K)
	up := api.Adapter{Part: api.AdaptK, Rank: 1, A: filled(2, int8(100)), B: filled(2, int8(1))}
	down := up
	down.A = filled(2, int8(-100))
	for _, x := range []struct {
		l    []api.Adapter
		want int8
	}{{[]api.Adapter{up, up, down}, 27}, {[]api.Adapter{up, down, up}, 100}, {[]api.Adapter{down, down, up}, -27}, {filled(300, up), 127}} {
		n, at, e := file.Merge(m, x.l)
		if at != 0 || e != api.OK || n.Blocks[0].K[3] != x.want {
			t.Error("Merge", n.Blocks[0].K, at, e, x.want)
		}
	}
}

// misfits is what makes an adapter of a model of the shape two one that does not fit.
func misfits() map[string]func(a *api.Adapter) {
	l := map[string]func(a *api.Adapter){
		"A none":            func(a *api.Adapter) { a.A = nil },
		"B none":            func(a *api.Adapter) { a.B = nil },
		"A less":            func(a *api.Adapter) { a.A = a.A[1:] },
		"B less":            func(a *api.Adapter) { a.B = a.B[1:] },
		"A more":            func(a *api.Adapter) { a.A = append(a.A, 0) },
		"B more":            func(a *api.Adapter) { a.B = append(a.B, 0) },
		"from A to B":       func(a *api.Adapter) { a.A, a.B = a.A[1:], append(a.B, 0) },
		"another rank":      func(a *api.Adapter) { a.Rank = 4 },
		"rank 0":            func(a *api.Adapter) { a.Rank, a.A, a.B = 0, nil, nil },
		"rank 17":           func(a *api.Adapter) { a.Rank, a.A, a.B = 17, filled(136, int8(0)), filled(136, int8(0)) },
		"a rank that wraps": func(a *api.Adapter) { a.Rank, a.A, a.B = 1<<61, nil, nil },
	}
	for _, n := range edges() {
		if n < 0 || n > 1 {
			l[fmt.Sprint("block ", n)] = func(a *api.Adapter) { a.Block = n }
		}
		if n < 1 || n > 4 {
			l[fmt.Sprint("part ", n)] = func(a *api.Adapter) { a.Part = n }
		}
		if n != 3 {
			l[fmt.Sprint("rank ", n, " of three")] = func(a *api.Adapter) { a.Rank = n }
		}
		if n < 0 || n > 31 {
			l[fmt.Sprint("shift ", n)] = func(a *api.Adapter) { a.Shift = n }
		}
	}
	return l
}

// 17.5: the first adapter that does not fit, whatever stands behind it.
func TestMergeOfMisfits(t *testing.T) {
	s := spread(15)
	m := wild(t, &s, two())
	right := api.Adapter{Block: 1, Part: api.AdaptV, Rank: 3, Shift: 31, A: s.numbers(24), B: s.numbers(24)}
	merges(t, "right", m, []api.Adapter{right})
	for what, change := range misfits() {
		wrong := right
		change(&wrong)
		refusesAdapters(t, what, m, []api.Adapter{wrong}, 0, api.ErrAdapter)
		refusesAdapters(t, what+", the last one", m, []api.Adapter{right, right, wrong}, 2, api.ErrAdapter)
		refusesAdapters(t, what+", and another one", m, []api.Adapter{right, wrong, right, {}}, 1, api.ErrAdapter)
	}
}

// 17.5: a model that is not valid any more, once all adapters are merged in.
func TestMergeTooFar(t *testing.T) {
	m := sampled(t, two(), 16)
	m.Embed[9], m.EmbedShift = -128, 21
	for i := range m.Blocks {
		b := &m.Blocks[i]
		clear(b.O)
		clear(b.Middle.Down)
		b.OS, b.Middle.DownS = 0, 0
	}
	one := api.Adapter{Block: 1, Part: api.AdaptO, Rank: 1, A: filled(8, int8(0)), B: filled(8, int8(0))}
	merges(t, "of noughts", m, []api.Adapter{one, one})
	one.A[7], one.B[7] = 1, 1
	back := one
	back.A = filled(8, int8(0))
	back.A[7] = -1
	refusesAdapters(t, "one", m, []api.Adapter{one}, 1, api.ErrTooFar)
	refusesAdapters(t, "one more", m, []api.Adapter{one, back, one}, 3, api.ErrTooFar)
	merges(t, "there and back", m, []api.Adapter{one, back})
	refusesAdapters(t, "too far, and a misfit behind", m, []api.Adapter{one, {}}, 1, api.ErrAdapter)
	for _, part := range []int{api.AdaptQ, api.AdaptK, api.AdaptV} {
		one.Part = part
		merges(t, "another part", m, []api.Adapter{one})
	}
	m.EmbedShift++
	refusesAdapters(t, "not valid ahead", m, []api.Adapter{one}, -1, api.ErrTooFar)
	m.Blocks[0].QS = math.MaxInt
	refusesAdapters(t, "a shift", m, nil, -1, api.ErrShifts)
	refusesAdapters(t, "nothing", api.Model{}, []api.Adapter{{}}, -1, api.ErrShape)
}
