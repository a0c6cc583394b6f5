package file_test

import (
	"slices"
	"strings"
	"testing"

	"herald/api"
	"herald/file"
)

// spare is a list with room behind its end, which is filled too.
func spare[T any](l []T, fill T) []T {
	room := append(make([]T, 0, len(l)+3), l...)
	for i := len(l); i < cap(room); i++ {
		room[:cap(room)][i] = fill
	}
	return room
}

// entire is a list with what lies behind its end.
func entire[T any](l []T) []T { return l[:cap(l)] }

// roomy is a copy of a model with room behind each list.
func roomy(m api.Model) api.Model {
	m = copyOf(m)
	m.Vocab.Texts, m.Vocab.Merges = spare(m.Vocab.Texts, "behind"), spare(m.Vocab.Merges, api.Merge{Out: 9})
	m.Blocks = spare(m.Blocks, api.Block{QS: 7})
	for _, l := range rows(&m) {
		*l = spare(*l, 77)
	}
	return m
}

// whole is all of a model, with what lies behind the ends of its lists.
func whole(m api.Model) api.Model {
	m.Vocab = api.Vocab{Texts: entire(m.Vocab.Texts), Merges: entire(m.Vocab.Merges)}
	m.Blocks = slices.Clone(entire(m.Blocks))
	for _, l := range rows(&m) {
		*l = entire(*l)
	}
	return m
}

// fill writes over a list, and over what lies behind its end.
func fill[T any](l []T, with T) {
	for i := range entire(l) {
		entire(l)[i] = with
	}
}

// spoils is, for each list of a model, what writes over all of it.
func spoils(m *api.Model) []func() {
	l := []func(){
		func() { fill(m.Vocab.Texts, "spoiled") },
		func() { fill(m.Vocab.Merges, api.Merge{Left: 99}) },
	}
	for _, row := range rows(m) {
		l = append(l, func() { fill(*row, 55) })
	}
	return append(l, func() { fill(m.Blocks, api.Block{OS: 99}) }) // the last one, as the blocks' lists are found by it
}

// spoil writes over all lists of a model.
func spoil(m *api.Model) {
	for _, over := range spoils(m) {
		over()
	}
}

// alone asks whether no two lists of an answer share a place: each that is written over leaves all others.
func alone(t *testing.T, what string, answer func() api.Model) {
	t.Helper()
	m := answer()
	for i := range len(rows(&m)) + 2 {
		m := answer()
		want := copyOf(whole(m))
		spoils(&m)[i]()
		now, changed := whole(m), 0
		if !slices.Equal(now.Vocab.Texts, want.Vocab.Texts) {
			changed++
		}
		if !slices.Equal(now.Vocab.Merges, want.Vocab.Merges) {
			changed++
		}
		for j, l := range rows(&now) {
			if !slices.Equal(*l, *rows(&want)[j]) {
				changed++
			}
		}
		if changed > 1 {
			t.Errorf("%s: list %d shares with another one", what, i)
		}
	}
}

// own asks whether an answer shares nothing with another one, nor with what is kept.
func own(t *testing.T, what string, answer func() api.Model) {
	t.Helper()
	alone(t, what, answer)
	first, second := answer(), answer()
	kept := copyOf(second)
	spoil(&first)
	same(t, what+": another answer", second, kept)
	same(t, what+": again", answer(), kept)
}

// merging is a model with merges.
func merging(t *testing.T) api.Model {
	m := sampled(t, two(), 30)
	m.Vocab = api.Vocab{Texts: []string{"", "a", "aa", "aaa", "b"}, Merges: []api.Merge{{Left: 1, Right: 1, Out: 2}, {Left: 1, Right: 2, Out: 3}}}
	return m
}

// R4: what Decode and Sections hand out is the caller's.
func TestDecodeIsTheCallersOwn(t *testing.T) {
	text, _ := file.Encode(merging(t))
	own(t, "Decode", func() api.Model { m, _ := file.Decode(text); return m })
	first, _ := file.Sections(text)
	second, _ := file.Sections(text)
	kept := slices.Clone(second)
	fill(first, api.Section{Name: "spoiled"})
	if again, _ := file.Sections(text); !slices.Equal(second, kept) || !slices.Equal(again, kept) {
		t.Error("Sections", second, again)
	}
}

// R4: Encode and Size change nothing of a model, be it valid or not.
func TestEncodeLeavesModels(t *testing.T) {
	m := roomy(merging(t))
	for range 2 {
		was := copyOf(whole(m))
		first, _ := file.Encode(m)
		second, _ := file.Encode(m)
		n := file.Size(m)
		same(t, "what was handed in", whole(m), was)
		if first != second || n != len(first) {
			t.Error("Encode", len(first), len(second), n)
		}
		m.LogitS = 99
	}
}

// R4: what Merge hands out is the caller's; what was handed in stays as it is.
func TestMergeIsTheCallersOwn(t *testing.T) {
	s := spread(31)
	m := roomy(merging(t))
	l := []api.Adapter{adapter(&s, two()), adapter(&s, two())}
	for i := range l {
		l[i].Shift = 8
		l[i].A, l[i].B = spare(l[i].A, 66), spare(l[i].B, 66)
	}
	l = spare(l, api.Adapter{Block: 9})
	was := copyOf(whole(m))
	for n := range 3 {
		own(t, "Merge", func() api.Model { x, _, _ := file.Merge(m, l[:n]); return x })
	}
	a, b := slices.Clone(entire(l[0].A)), slices.Clone(entire(l[0].B))
	x, _, _ := file.Merge(m, l)
	file.Merge(m, append(l[:2:2], api.Adapter{}))
	same(t, "what was handed in", whole(m), was)
	if !slices.Equal(a, entire(l[0].A)) || !slices.Equal(b, entire(l[0].B)) || l[:3][2].Block != 9 {
		t.Error("an adapter was changed")
	}
	kept := copyOf(x)
	spoil(&m)
	fill(l[0].A, 1)
	fill(l[0].B, 1)
	same(t, "a model of what was changed since", x, kept)
}

// R4: what Import hands out is the caller's; what was handed in stays as it is.
func TestImportIsTheCallersOwn(t *testing.T) {
	sh, v := two(), merging(t).Vocab
	v.Texts, v.Merges = spare(v.Texts, "behind"), spare(v.Merges, api.Merge{Out: 9})
	x := plain(sh)
	for i, l := range numbersOf(&x) {
		(*l)[0] = bits(0.5 / float64(1+i%5))
		*l = spare(*l, 66)
	}
	x.Blocks = spare(x.Blocks, api.SinglesBlock{ScoreS: 9})
	own(t, "Import", func() api.Model { m, _ := file.Import(sh, v, x); return m })
	was, vocab := copyOfSingles(x), api.Vocab{Texts: slices.Clone(entire(v.Texts)), Merges: slices.Clone(entire(v.Merges))}
	m, e := file.Import(sh, v, x)
	if e != api.OK {
		t.Fatal("Import", e)
	}
	if !sameSingles(x, was) || !slices.Equal(entire(v.Texts), vocab.Texts) || !slices.Equal(entire(v.Merges), vocab.Merges) || x.Blocks[:3][2].ScoreS != 9 {
		t.Error("what was handed in was changed")
	}
	for _, l := range numbersOf(&x) {
		if all := entire(*l); all[len(all)-1] != 66 {
			t.Error("what lies behind a list was changed")
		}
	}
	kept := copyOf(m)
	fill(v.Texts, "spoiled")
	fill(v.Merges, api.Merge{Left: 99})
	for _, l := range numbersOf(&x) {
		fill(*l, 1)
	}
	same(t, "a model of what was changed since", m, kept)
}

// R3: no merges and no adapters, be they nil or empty; and the same of singles that are none.
func TestEmptyLists(t *testing.T) {
	m := sampled(t, tiny(), 32)
	for _, none := range [][]api.Merge{nil, {}} {
		m.Vocab.Merges = none
		decodes(t, "no merges", encodes(t, "no merges", m))
		n, e := file.Import(tiny(), m.Vocab, plain(tiny()))
		if e != api.OK || len(n.Vocab.Merges) != 0 {
			t.Error("Import", e)
		}
	}
	x := plain(tiny())
	for i := range numbersOf(&x) {
		for _, empty := range [][]uint32{nil, {}} {
			y := copyOfSingles(x)
			*numbersOf(&y)[i] = empty
			refusesSingles(t, "an empty list", tiny(), m.Vocab, y, api.ErrSingles)
		}
	}
	for _, empty := range [][]int8{nil, {}} {
		refusesAdapters(t, "an empty list", m, []api.Adapter{{Part: 1, Rank: 1, A: empty, B: empty}}, 0, api.ErrAdapter)
	}
}

// R1: bytes of any kind, and as many as may be of what takes little.
func TestNothingPanics(t *testing.T) {
	s := spread(33)
	for range 3000 {
		b := make([]byte, s.below(200))
		for i := range b {
			b[i] = byte(s.below(256))
		}
		decodes(t, "any bytes", string(b))
		decodes(t, "any bytes", sealed("HERALD\x00\x01"+string(b)))
		decodes(t, "any bytes behind a shape", sealed("HERALD\x00\x01"+two16(2+s.below(4), 1, 2, 1, 1, 1)+string(b)))
	}
	decodes(t, "many bytes", strings.Repeat("HERALD\x00\x01", 1<<20))
	_, text := example(t)
	refuses(t, "many bytes behind", sealed(bodyOf(text)+strings.Repeat("x", 1<<22)), api.ErrLeft)
	l := edges()
	one := func() int { return l[s.below(len(l))] }
	for range 3000 {
		m := wild(t, &s, tiny())
		*shifts(&m)[s.below(10)] = one()
		if s.below(3) == 0 {
			*rows(&m)[s.below(15)] = s.numbers(s.below(9))
		}
		if s.below(3) == 0 {
			m.Shape = of(one(), one(), one(), one(), one(), one())
		}
		text, e := file.Encode(m)
		if n := file.Size(m); n != len(text) {
			t.Error("Size", n, len(text))
		}
		a := api.Adapter{Block: one(), Part: one(), Rank: one(), Shift: one(), A: s.numbers(s.below(9)), B: s.numbers(s.below(9))}
		if _, at, other := file.Merge(m, []api.Adapter{a}); e != api.OK && (at != -1 || other != e) {
			t.Error("Merge", at, other, e)
		}
		x := plain(tiny())
		n := *numbersOf(&x)[s.below(12)]
		n[s.below(len(n))] = uint32(s.below(1 << 32))
		x.Blocks[0].ScoreS = one()
		file.Import(m.Shape, m.Vocab, x)
		file.Import(tiny(), m.Vocab, x)
	}
}
