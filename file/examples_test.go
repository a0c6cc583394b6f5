package file_test

import (
	"testing"

	"herald/api"
	"herald/file"
)

// example is the model of the chapter's first example, and its file.
func example(t *testing.T) (api.Model, string) {
	t.Helper()
	m := sampled(t, tiny(), 0)
	s, e := file.Encode(m)
	if e != api.OK {
		t.Fatal("Encode", e)
	}
	return m, s
}

// The chapter's first example.
func TestExampleOfEncode(t *testing.T) {
	m, s := example(t)
	if len(s) != 355 || file.Size(m) != 355 {
		t.Error("Size", len(s), file.Size(m))
	}
	if s[:20] != "HERALD\x00\x01\x03\x00\x04\x00\x02\x00\x01\x00\x01\x00\x02\x00" {
		t.Errorf("Encode: %q", s[:20])
	}
}

// The second one.
func TestExampleOfDecode(t *testing.T) {
	m, s := example(t)
	n, e := file.Decode(s)
	if e != api.OK {
		t.Error("Decode", e)
	}
	same(t, "Decode", n, m)
	refuses(t, "cut by one byte", s[:354], api.ErrDigest)
	refuses(t, "fewer than 16 bytes", s[:15], api.ErrShort)
	refuses(t, "another first byte", "I"+s[1:], api.ErrMagic)
}

// The third one.
func TestExampleOfSections(t *testing.T) {
	_, s := example(t)
	l, e := file.Sections(s)
	if len(l) != 22 || e != api.OK {
		t.Fatal("Sections", l, e)
	}
	for i, want := range map[int]api.Section{
		0: {Name: "magic", From: 0, To: 8}, 1: {Name: "shape", From: 8, To: 20}, 2: {Name: "shifts", From: 20, To: 22}, 3: {Name: "texts", From: 22, To: 27},
		4: {Name: "merges", From: 27, To: 29}, 5: {Name: "embed", From: 29, To: 35}, 8: {Name: "block 0.shifts", From: 43, To: 51}, 21: {Name: "digest", From: 347, To: 355},
	} {
		if l[i] != want {
			t.Error("Sections", l[i], want)
		}
	}
}

// The fourth one.
func TestExampleOfMerge(t *testing.T) {
	m, _ := example(t)
	a := api.Adapter{Block: 0, Part: 1, Rank: 1, Shift: 0, A: []int8{1, 0}, B: []int8{0, 2}}
	n, at, e := file.Merge(m, []api.Adapter{a})
	if at != 0 || e != api.OK || n.Blocks[0].Q[2] != min(127, m.Blocks[0].Q[2]+2) {
		t.Error("Merge", n.Blocks[0].Q, at, e)
	}
	a.Block = 1
	if n, at, e := file.Merge(m, []api.Adapter{a}); at != 0 || e != api.ErrAdapter || !isSame(n, api.Model{}) {
		t.Error("Merge", at, e)
	}
}

// The last example of the whole, of a file of which one byte is turned.
func TestExampleOfTheWhole(t *testing.T) {
	m := sampled(t, of(3, 8, 2, 1, 1, 2), 0)
	s, _ := file.Encode(m)
	for i := range len(s) {
		turned := s[:i] + string([]byte{^s[i]}) + s[i+1:]
		want := api.ErrDigest
		if i < 8 {
			want = api.ErrMagic
		}
		refuses(t, "turned", turned, want)
	}
}

// The numbers that the chapter gives to its errors, parts and limits.
func TestNumbersOfTheChapter(t *testing.T) {
	if api.ErrMagic != 170 || api.ErrDigest != 171 || api.ErrSingles != 172 || api.ErrScales != 173 || api.ErrAdapter != 174 {
		t.Error("errors")
	}
	if api.ErrShort != 11 || api.ErrLeft != 13 || api.ErrFinite != 30 || api.ErrTexts != 130 || api.ErrMerge != 131 {
		t.Error("errors of other layers")
	}
	if api.AdaptQ != 1 || api.AdaptK != 2 || api.AdaptV != 3 || api.AdaptO != 4 || api.MaxRank != 16 {
		t.Error("adapters")
	}
}
