package shape_test

import (
	"fmt"
	"slices"
	"testing"

	"herald/api"
	"herald/shape"
)

// spare is a list with room behind its end, which is filled too.
func spare[T any](l []T, fill T) []T {
	room := append(make([]T, 0, len(l)+3), l...)
	for i := len(l); i < cap(room); i++ {
		room[:cap(room)][i] = fill
	}
	return room
}

// entire is a list with what lies behind its end.
func entire[T any](l []T) []T { return l[:cap(l)] }

// roomy is a copy of a model with room behind each list.
func roomy(m api.Model) api.Model {
	m = copyOf(m)
	m.Vocab.Texts, m.Vocab.Merges = spare(m.Vocab.Texts, "behind"), spare(m.Vocab.Merges, api.Merge{Out: 9})
	m.Blocks = spare(m.Blocks, api.Block{QS: 7})
	for _, l := range rows(&m) {
		*l = spare(*l, 77)
	}
	return m
}

// whole is all of a model, with what lies behind the ends of its lists.
func whole(m api.Model) api.Model {
	m.Vocab = api.Vocab{Texts: entire(m.Vocab.Texts), Merges: entire(m.Vocab.Merges)}
	blocks := slices.Clone(entire(m.Blocks))
	m.Blocks = blocks
	for _, l := range rows(&m) {
		*l = entire(*l)
	}
	return m
}

// spoils is, for each list of a model, what writes over all of it.
func spoils(m *api.Model) []func() {
	l := []func(){
		func() { fill(m.Vocab.Texts, "spoiled") },
		func() { fill(m.Vocab.Merges, api.Merge{Left: 99}) },
	}
	for _, row := range rows(m) {
		l = append(l, func() { fill(*row, 55) })
	}
	return append(l, func() { fill(m.Blocks, api.Block{OS: 99}) }) // the last one, as the blocks' lists are found by it
}

// fill writes over a list, and over what lies behind its end.
func fill[T any](l []T, with T) {
	for i := range entire(l) {
		entire(l)[i] = with
	}
}

// alone asks whether no two lists of an answer share a place: each that is written over leaves all others.
func alone(t *testing.T, what string, answer func() api.Model) {
	t.Helper()
	m := answer()
	for i := range len(rows(&m)) + 2 {
		m := answer()
		want := copyOf(whole(m))
		spoils(&m)[i]()
		now, changed := whole(m), 0
		if !slices.Equal(now.Vocab.Texts, want.Vocab.Texts) {
			changed++
		}
		if !slices.Equal(now.Vocab.Merges, want.Vocab.Merges) {
			changed++
		}
		for j, l := range rows(&now) {
			if !slices.Equal(*l, *rows(&want)[j]) {
				changed++
			}
		}
		if changed > 1 {
			t.Errorf("%s: list %d shares with another one", what, i)
		}
	}
}

// R4: what Sample hands out is the caller's, and each list by itself.
func TestSamplesAreTheCallersOwn(t *testing.T) {
	for _, s := range shapes()[:5] {
		alone(t, "Sample", func() api.Model { return sampled(t, s, 20) })
		first, second := sampled(t, s, 20), sampled(t, s, 20)
		kept := copyOf(second)
		for _, spoil := range spoils(&first) {
			spoil()
		}
		same(t, "another sample", second, kept, true)
		same(t, "a sample again", sampled(t, s, 20), kept, true)
	}
}

// R4: what Cut hands out is the caller's; what was handed in stays as it is.
func TestCutsAreTheCallersOwn(t *testing.T) {
	m := sampled(t, two(), 21)
	m.Vocab = api.Vocab{Texts: []string{"", "a", "aa", "aaa", "b"}, Merges: []api.Merge{{Left: 1, Right: 1, Out: 2}, {Left: 1, Right: 2, Out: 3}}}
	for layers := 1; layers <= 2; layers++ {
		given := roomy(m)
		was := copyOf(whole(given))
		cut := func() api.Model { x, _ := shape.Cut(given, layers); return x }
		alone(t, "Cut", cut)
		first, second := cut(), cut()
		kept := copyOf(second)
		for _, spoil := range spoils(&first) {
			spoil()
		}
		same(t, "what was handed in", whole(given), was, true)
		same(t, "another cut", second, kept, true)
		same(t, "a cut again", cut(), kept, true)
		third := cut()
		for _, spoil := range spoils(&given) {
			spoil()
		}
		same(t, "a cut of what was changed since", third, kept, true)
		for _, b := range entire(third.Blocks)[layers:] {
			if b.QS != 0 || b.Q != nil {
				t.Error("blocks lie behind the cut's", b)
			}
		}
	}
}

// R4: Reaches is new each time, and no call changes what it is handed.
func TestModelsStay(t *testing.T) {
	m := roomy(sampled(t, two(), 22))
	other := roomy(m)
	was := copyOf(whole(m))
	first, _ := shape.Reaches(m)
	second, _ := shape.Reaches(m)
	kept := slices.Clone(second)
	fill(first, -1)
	reaches(t, "again", m, kept...)
	if !slices.Equal(second, kept) {
		t.Error("another answer", second)
	}
	shape.Valid(m)
	shape.Same(m, other)
	shape.Fitting(m, other.Vocab)
	shape.Cut(m, 3)
	same(t, "what was handed in", whole(m), was, true)
	same(t, "what it was held against", whole(other), was, true)
	for _, x := range faults() {
		faulty := copyOf(m)
		x.change(&faulty)
		faulty = roomy(faulty)
		was := copyOf(whole(faulty))
		shape.Valid(faulty)
		shape.Reaches(faulty)
		shape.Cut(faulty, 1)
		shape.Fitting(faulty, faulty.Vocab)
		same(t, x.what, whole(faulty), was, true)
	}
}

// R3: no merges, be they nil or empty, and lists that are empty where they should not be.
func TestEmptyLists(t *testing.T) {
	m := sampled(t, tiny(), 23)
	for _, merges := range [][]api.Merge{nil, {}} {
		m.Vocab.Merges = merges
		valid(t, "no merges", m, api.Where{}, api.OK)
		x, e := shape.Cut(m, 1)
		same(t, "no merges", x, m, e == api.OK)
	}
	for i := range rows(&m) {
		for _, empty := range [][]int8{nil, {}} {
			x := copyOf(m)
			*rows(&x)[i] = empty
			if _, e := shape.Valid(x); e != api.ErrPart {
				t.Error("an empty row", i, e)
			}
		}
	}
}

// R1: at all arguments; what the calls say is asked elsewhere.
func TestNothingPanics(t *testing.T) {
	s := spread(24)
	l := edges()
	one := func() int { return l[s.below(len(l))] }
	for range 3000 {
		sh := of(one(), one(), one(), one(), one(), one())
		checks(t, sh, asked(sh))
		m := wild(t, &s, tiny())
		for range s.below(3) {
			x := rows(&m)
			*x[s.below(len(x))] = s.numbers(s.below(10))
		}
		for range s.below(3) {
			x := shifts(&m)
			*x[s.below(len(x))] = one()
		}
		if s.below(4) == 0 {
			m.Shape = sh
		}
		if s.below(4) == 0 {
			m.Blocks = make([]api.Block, s.below(4))
		}
		_, e := shape.Valid(m)
		_, other := shape.Reaches(m)
		if e != other && e != api.ErrTooFar {
			t.Error(fmt.Sprint("Reaches ", other, " and Valid ", e))
		}
		x, cut := shape.Cut(m, one())
		if e != api.OK && cut != e || cut == api.OK && len(x.Blocks) != x.Shape.Layers {
			t.Error("Cut", cut, e)
		}
		same(t, "itself", m, m, true)
		if shape.Fitting(m, m.Vocab) != (e == api.OK) {
			t.Error("Fitting", e)
		}
		shape.Costs(sh, one())
	}
}
