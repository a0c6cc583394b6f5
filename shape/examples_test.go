package shape_test

import (
	"slices"
	"testing"

	"herald/api"
	"herald/shape"
)

// The chapter's first example.
func TestExampleOfShapes(t *testing.T) {
	checks(t, least(), api.OK)
	if n, e := shape.Numbers(least()); shape.Half(least()) != 1 || n != 294 || e != api.OK {
		t.Error("Numbers", n, e)
	}
	checks(t, of(2, 1, 2, 2, 1, 1), api.ErrShape)
	checks(t, of(1, 1, 2, 1, 1, 1), api.ErrShape)
}

// The second one.
func TestExampleOfSample(t *testing.T) {
	m := sampled(t, tiny(), 0)
	if m.Embed[0] != 20 || !slices.Equal(m.Vocab.Texts, []string{"", "a", "b"}) {
		t.Error("Sample", m.Embed, m.Vocab)
	}
	if b := m.Blocks[0]; b.QS != 8 || b.OS != 5 || b.Middle.DownS != 5 {
		t.Error("Sample", b)
	}
}

// The third one.
func TestExampleOfValid(t *testing.T) {
	is := func(what string, want api.Where, err api.Errno, change func(m *api.Model)) {
		t.Helper()
		m := sampled(t, tiny(), 0)
		change(&m)
		valid(t, what, m, want, err)
	}
	is("Embed", where(api.PartEmbed, 0), api.ErrPart, func(m *api.Model) { m.Embed = m.Embed[:5] })
	is("EmbedShift", where(api.PartEmbed, 0), api.ErrShifts, func(m *api.Model) { m.EmbedShift = 25 })
	is("blocks", where(api.PartBlock, 1), api.ErrPart, func(m *api.Model) { m.Blocks = append(m.Blocks, m.Blocks[0]) })
	far := func(shift int) func(m *api.Model) {
		return func(m *api.Model) { m.Embed, m.EmbedShift = filled(6, 127), shift }
	}
	is("20", api.Where{}, api.OK, far(20))
	is("21", api.Where{}, api.OK, far(21))
	is("22", where(api.PartReach, 0), api.ErrTooFar, far(22))
}

// The third one, of the reaches themselves.
func TestExampleOfReaches(t *testing.T) {
	m := sampled(t, tiny(), 0)
	m.Embed = filled(6, 127)
	for shift, want := range map[int]int64{20: 133169152, 21: 266338304, 22: 532676608} {
		m.EmbedShift = shift
		if l, e := shape.Reaches(m); e != api.OK || l[0] != want {
			t.Error("Reaches", shift, l, e)
		}
	}
	m.Blocks[0].O, m.Blocks[0].OS = filled(4, 127), 0
	if l, e := shape.Reaches(m); e != api.OK || l[1] != l[0]+32258 {
		t.Error("Reaches", l, e)
	}
}

// The fourth one.
func TestExampleOfMore(t *testing.T) {
	if c, e := shape.Costs(least(), 1); c != (api.Cost{Numbers: 294, PairBytes: 4, Pass: 26, Score: 4}) || e != api.OK {
		t.Error("Costs", c, e)
	}
	if s, e := shape.Preset("tiny"); s != of(3, 8, 2, 1, 1, 2) || e != api.OK {
		t.Error("Preset", s, e)
	}
	if s, e := shape.Preset("Tiny"); s != (api.Shape{}) || e != api.ErrShape {
		t.Error("Preset", s, e)
	}
	if m, e := shape.Cut(sampled(t, two(), 0), 1); len(m.Blocks) != 1 || e != api.OK {
		t.Error("Cut", len(m.Blocks), e)
	}
	noModel(t, "Cut by 0", api.ErrShape)(shape.Cut(sampled(t, two(), 0), 0))
}

// The numbers that the chapter gives to its errors, parts and limits.
func TestNumbersOfTheChapter(t *testing.T) {
	if api.ErrShape != 160 || api.ErrPart != 161 || api.ErrShifts != 162 || api.ErrTooFar != 163 || api.ErrArg != 1 || api.ErrTexts != 130 || api.ErrMerge != 131 {
		t.Error("errors")
	}
	if api.PartShape != 1 || api.PartVocab != 2 || api.PartEmbed != 3 || api.PartAngles != 4 || api.PartBlock != 5 {
		t.Error("parts")
	}
	if api.PartBend != 6 || api.PartGain != 7 || api.PartUnembed != 8 || api.PartReach != 9 || api.MaxReach != 268435456 {
		t.Error("parts")
	}
}
