package guide_test

import (
	"testing"

	"herald/api"
	"herald/guide"
)

// exampleGuide is the guide of the first example.
func exampleGuide() api.Guide {
	return of("01", edge(0, 'a', 'a', 1), edge(1, 'a', 'b', 1))
}

// The chapter's first example.
func TestExampleOfMasks(t *testing.T) {
	g, v := exampleGuide(), vocabulary("a", "b", "ab", "c")
	accepts(t, g, "a", true)
	accepts(t, g, "abba", true)
	accepts(t, g, "", false)
	accepts(t, g, "b", false)
	isList(t, "0", false, true, false, true, false)(guide.Mask(g, v, 0))
	isList(t, "1", true, true, true, true, false)(guide.Mask(g, v, 1))
	isList(t, "-1", true, false, false, false, false)(guide.Mask(g, v, -1))
	walks(t, g, 0, "ab", 1)
	walks(t, g, 0, "b", -1)
}

// The second one.
func TestExampleOfCheck(t *testing.T) {
	g := of("010", append(exampleGuide().Edges, edge(1, 'c', 'c', 2))...)
	checks(t, "three states", g, 0, api.OK)
	isList(t, "Alive", true, true, false)(guide.Alive(g))
	isList(t, "1", true, true, true, true, false)(guide.Mask(g, vocabulary("a", "b", "ab", "c"), 1))
	checks(t, "two edges", of("11", edge(0, 'a', 'c', 1), edge(0, 'b', 'b', 0)), 1, api.ErrEdge)
	checks(t, "one state", of("0"), 0, api.ErrDead)
}

// The third one.
func TestExampleOfPatterns(t *testing.T) {
	compiles(t, "a[ab]*", exampleGuide())
	compiles(t, "(ab|a)b?", of("0111", edge(0, 'a', 'a', 1), edge(1, 'b', 'b', 2), edge(2, 'b', 'b', 3)))
	compiles(t, "a{2,3}", of("0011", edge(0, 'a', 'a', 1), edge(1, 'a', 'a', 2), edge(2, 'a', 'a', 3)))
	refuses(t, "a(", 2, api.ErrPattern)
	refuses(t, "*", 0, api.ErrPattern)
	refuses(t, "a{33}", 1, api.ErrRepeat)
	refuses(t, "a{3,2}", 1, api.ErrRepeat)
	refuses(t, "[b-a]", 3, api.ErrPattern)
	compiles(t, "", of("1"))
	refuses(t, `[^\x00-\xff]`, 0, api.ErrDead)
}

// The fourth one.
func TestExampleOfTexts(t *testing.T) {
	noGuide(t, "Not", api.ErrDead)(guide.Not(of("")))
	isTold(t, "Shortest", "a")(guide.Shortest(compiled(t, "b|ab|a")))
	counts(t, compiled(t, "[ab]*"), 10, 1024, true)
	counts(t, compiled(t, "[ab]*"), 63, 0, false)
}

// The numbers that the chapter gives to its errors and limits.
func TestNumbers(t *testing.T) {
	if api.ErrStates != 150 || api.ErrEdge != 151 || api.ErrDead != 152 || api.ErrPattern != 153 || api.ErrRepeat != 154 {
		t.Error("errors")
	}
	if api.MaxStates != 64 || api.MaxEdges != 1024 || api.MaxPattern != 256 || api.MaxRepeat != 32 || api.MaxWritten != 512 || api.MaxSets != 1024 {
		t.Error("limits")
	}
}
