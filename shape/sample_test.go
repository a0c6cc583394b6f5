package shape_test

import (
	"fmt"
	"math"
	"slices"
	"testing"

	"herald/act"
	"herald/api"
	"herald/rope"
	"herald/shape"
	"herald/vocab"
)

// seeds is numbers of models, those at the edges too.
func seeds() []int {
	return []int{0, 1, 2, -1, -2, 7, 255, 256, 1 << 32, -1 << 40, math.MaxInt, math.MinInt, math.MinInt + 1}
}

// 16.4: by the words.
func TestSampleByTheWords(t *testing.T) {
	for _, s := range shapes() {
		for i, seed := range seeds() {
			if numbersOf(s) > 100000 && i > 2 {
				break // a generator of any size is slow
			}
			if m := sampled(t, s, seed); !isSame(m, sampleOf(s, seed)) {
				t.Errorf("Sample of %v and %d", s, seed)
			}
		}
	}
}

// 16.4: the words of a great vocabulary.
func TestWordsOfSample(t *testing.T) {
	for n := 2; n <= 512; n++ {
		s := least()
		s.Vocab = n
		v := sampled(t, s, n).Vocab
		if !vocab.Same(v, vocabOf(n)) {
			t.Errorf("%d tokens: %v", n, v)
		}
	}
	s := least()
	s.Vocab = 512
	v := sampled(t, s, 0).Vocab
	for i, want := range map[int]string{0: "", 1: "a", 26: "z", 159: "\xff", 160: "\x00", 255: "_", 256: "aa", 257: "ab", 414: "a\xff", 415: "a\x00", 510: "a_", 511: "a`"} {
		if v.Texts[i] != want {
			t.Errorf("token %d: %q and not %q", i, v.Texts[i], want)
		}
	}
	if len(v.Merges) != 255 || v.Merges[0] != (api.Merge{Left: 1, Right: 1, Out: 256}) || v.Merges[254] != (api.Merge{Left: 1, Right: 255, Out: 510}) {
		t.Error("merges", len(v.Merges))
	}
}

// 16.4: the shifts of rows of all lengths.
func TestShiftsOfSample(t *testing.T) {
	for dim := 2; dim <= 64; dim += 2 {
		m := sampled(t, of(2, 1, dim, 1, 2, 4*dim), 0)
		l, out := fourOf(dim), 4+fourOf(4*dim)
		for _, b := range m.Blocks {
			if got := shiftsOfBlock(b); got != fmt.Sprint([]int{7 + l, 7 + l, 7 + l, 4 + l, 3, 7 + l, 7 + l, out}) {
				t.Error("shifts", dim, got)
			}
		}
		if m.EmbedShift != 2 || m.LogitS != 4+l {
			t.Error("shifts", dim, m.EmbedShift, m.LogitS)
		}
	}
	for hidden := 1; hidden <= 256; hidden++ {
		if s := sampled(t, of(2, 1, 2, 1, 1, hidden), 0).Blocks[0].Middle.DownS; s != 4+fourOf(hidden) {
			t.Error("DownS", hidden, s)
		}
	}
}

// shiftsOfBlock is the shifts of a block, told.
func shiftsOfBlock(b api.Block) string {
	var l []int
	for _, shift := range blockShifts(&b) {
		l = append(l, *shift)
	}
	return fmt.Sprint(l)
}

// 16.4: the tables and gains.
func TestTablesOfSample(t *testing.T) {
	for _, s := range shapes() {
		m := sampled(t, s, 3)
		cos, sin, _ := rope.Table(s.Context, s.Dim/s.Heads/2)
		bend, _ := act.Table(api.BendSoft)
		if !slices.Equal(m.Cos, cos) || !slices.Equal(m.Sin, sin) || !slices.Equal(m.Bend, bend) || !slices.Equal(m.Gain, filled(s.Dim, 64)) {
			t.Error("tables", s)
		}
		for _, b := range m.Blocks {
			if !slices.Equal(b.Gain1, filled(s.Dim, 64)) || !slices.Equal(b.Gain2, filled(s.Dim, 64)) {
				t.Error("gains", s)
			}
		}
	}
}

// 16.4: models are the same in all, or they are not.
func TestSame(t *testing.T) {
	m := sampled(t, two(), 13)
	m.Vocab.Texts = []string{"", "a", "aa", "aaa", "b"}
	m.Vocab.Merges = []api.Merge{{Left: 1, Right: 1, Out: 2}, {Left: 1, Right: 2, Out: 3}}
	same(t, "itself", m, m, true)
	same(t, "a copy", m, copyOf(m), true)
	differs := func(what string, change func(m *api.Model)) {
		t.Helper()
		x := copyOf(m)
		change(&x)
		same(t, what, m, x, false)
		same(t, what+", of both", x, copyOf(x), true)
	}
	for i := range rows(&m) {
		differs("first number", func(m *api.Model) { (*rows(m)[i])[0]++ })
		differs("last number", func(m *api.Model) { l := *rows(m)[i]; l[len(l)-1]-- })
		differs("shorter row", func(m *api.Model) { shorter(rows(m)[i]) })
		differs("longer row", func(m *api.Model) { l := rows(m)[i]; *l = append(*l, 0) })
		differs("no row", func(m *api.Model) { *rows(m)[i] = nil })
	}
	for i := range shifts(&m) {
		differs("shift", func(m *api.Model) { *shifts(m)[i]++ })
	}
	for i := range 6 {
		differs("shape", func(m *api.Model) { *sizesOf(&m.Shape)[i]++ })
	}
	differs("text", func(m *api.Model) { m.Vocab.Texts[4] = "c" })
	differs("texts", func(m *api.Model) { m.Vocab.Texts = m.Vocab.Texts[:4] })
	differs("merge", func(m *api.Model) { m.Vocab.Merges[1].Out = 2 })
	differs("merges", func(m *api.Model) { m.Vocab.Merges = m.Vocab.Merges[:1] })
	differs("order of merges", func(m *api.Model) { slices.Reverse(m.Vocab.Merges) })
	differs("fewer blocks", func(m *api.Model) { m.Blocks = m.Blocks[:1] })
	differs("more blocks", func(m *api.Model) { m.Blocks = append(m.Blocks, m.Blocks[0]) })
	differs("order of blocks", func(m *api.Model) { slices.Reverse(m.Blocks) })
	same(t, "none", api.Model{}, api.Model{}, true)
	same(t, "none and one", api.Model{}, m, false)
}

// sizesOf is the six numbers of a shape.
func sizesOf(s *api.Shape) []*int {
	return []*int{&s.Vocab, &s.Context, &s.Dim, &s.Heads, &s.Layers, &s.Hidden}
}

// same asks whether two models are the same, either way round.
func same(t *testing.T, what string, a, b api.Model, want bool) {
	t.Helper()
	if shape.Same(a, b) != want || shape.Same(b, a) != want {
		t.Errorf("%s: Same: not %v", what, want)
	}
}

// 16.4, R3: an empty list is the same as none.
func TestSameOfEmptyLists(t *testing.T) {
	empty := api.Model{Vocab: api.Vocab{Texts: []string{}, Merges: []api.Merge{}}, Blocks: []api.Block{}}
	for _, l := range rows(&empty) {
		*l = []int8{}
	}
	same(t, "empty", empty, api.Model{}, true)
	block := api.Block{}
	for _, l := range blockRows(&block) {
		*l = []int8{}
	}
	same(t, "an empty block", api.Model{Blocks: []api.Block{block}}, api.Model{Blocks: []api.Block{{}}}, true)
	same(t, "an empty block and none", api.Model{Blocks: []api.Block{block}}, api.Model{}, false)
	m := sampled(t, tiny(), 1)
	x := copyOf(m)
	x.Vocab.Merges = []api.Merge{}
	m.Vocab.Merges = nil
	same(t, "no merges", m, x, true)
	valid(t, "no merges", x, api.Where{}, api.OK)
}
