package guide_test

import (
	"fmt"
	"slices"
	"testing"

	"herald/api"
	"herald/guide"
)

// spare is a list with room behind its end, which is filled too.
func spare[T any](fill T, l ...T) []T {
	room := append(make([]T, 0, 2*len(l)+4), l...)
	for i := len(l); i < cap(room); i++ {
		room[:cap(room)][i] = fill
	}
	return room
}

// entire is a list with what lies behind its end.
func entire[T any](l []T) []T { return l[:cap(l)] }

// spoil writes over a list, and over what lies behind its end.
func spoil[T any](l []T, with T) {
	for i := range entire(l) {
		entire(l)[i] = with
	}
}

// roomy is a guide with room behind both lists.
func roomy(g api.Guide) api.Guide {
	return api.Guide{Accept: spare(true, g.Accept...), Edges: spare(edge(0, 'a', 'z', 0), g.Edges...)}
}

// whole is a copy of all that a guide's lists have.
func whole(g api.Guide) api.Guide {
	return api.Guide{Accept: slices.Clone(entire(g.Accept)), Edges: slices.Clone(entire(g.Edges))}
}

// R4: what is handed in stays as it is.
func TestGuidesAreLetBe(t *testing.T) {
	s := spread(17)
	for range 100 {
		a, b := roomy(s.guide(5, 'a', 4)), roomy(s.guide(5, 'b', 4))
		v := api.Vocab{Texts: spare("q", "", "a", "b", "ab"), Merges: spare(api.Merge{Left: 9}, api.Merge{Left: 1, Right: 2, Out: 3})}
		tokens := spare(7, 1, 2, 3)
		wasA, wasB, wasTexts, wasMerges, wasTokens := whole(a), whole(b), slices.Clone(entire(v.Texts)), slices.Clone(entire(v.Merges)), slices.Clone(entire(tokens))
		guide.Check(a)
		guide.Alive(a)
		guide.Walk(a, 0, "abc")
		guide.Mask(a, v, 0)
		guide.Next(a, v, 0, 1)
		guide.State(a, v, tokens)
		guide.Accepts(a, "abc")
		guide.Least(a)
		guide.And(a, b)
		guide.Or(a, b)
		guide.Not(a)
		guide.Equal(a, b)
		guide.Shortest(a)
		guide.Count(a, 9)
		if !same(whole(a), wasA) || !same(whole(b), wasB) || !slices.Equal(entire(v.Texts), wasTexts) || !slices.Equal(entire(v.Merges), wasMerges) || !slices.Equal(entire(tokens), wasTokens) {
			t.Fatal(whole(a), whole(b), v, tokens)
		}
	}
}

// R4, R5: what is handed out is the caller's, and another answer is the same again.
func TestAnswersAreTheCallersOwn(t *testing.T) {
	g, other, v := compiled(t, "(ab|a)b?"), compiled(t, "[a-c]{0,3}"), vocabulary("a", "b")
	for what, call := range map[string]func() (api.Guide, api.Errno){
		"Compile": func() (api.Guide, api.Errno) { g, _, e := guide.Compile("a[ab]{2,4}|c"); return g, e },
		"Least":   func() (api.Guide, api.Errno) { return guide.Least(g) },
		"And":     func() (api.Guide, api.Errno) { return guide.And(g, other) },
		"Or":      func() (api.Guide, api.Errno) { return guide.Or(g, other) },
		"Not":     func() (api.Guide, api.Errno) { return guide.Not(g) },
		"Least of none": func() (api.Guide, api.Errno) {
			return guide.Least(of(""))
		},
	} {
		first, _ := call()
		second, _ := call()
		kept := api.Guide{Accept: slices.Clone(first.Accept), Edges: slices.Clone(first.Edges)}
		spoil(first.Accept, true)
		spoil(first.Edges, edge(7, 7, 7, 7))
		isGuide(t, what+": another answer", kept)(second, api.OK)
		isGuide(t, what+" again", kept)(call())
	}
	for what, call := range map[string]func() ([]bool, api.Errno){
		"Alive": func() ([]bool, api.Errno) { return guide.Alive(g) },
		"Mask":  func() ([]bool, api.Errno) { return guide.Mask(g, v, 1) },
	} {
		first, _ := call()
		second, _ := call()
		kept := slices.Clone(first)
		spoil(first, !first[0])
		isList(t, what+": another answer", kept...)(second, api.OK)
		isList(t, what+" again", kept...)(call())
	}
	compiles(t, "(ab|a)b?", g)
}

// R4: a mask or a list of living states is not the guide's own list.
func TestAliveIsNotAccept(t *testing.T) {
	g := of("11")
	alive, _ := guide.Alive(g)
	spoil(alive, false)
	if !g.Accept[0] || !g.Accept[1] {
		t.Error(g)
	}
	least, _ := guide.Least(g)
	spoil(least.Accept, false)
	if !g.Accept[0] {
		t.Error(g)
	}
}

// R3: lists that are empty are the same as none.
func TestEmptyLists(t *testing.T) {
	empty := api.Guide{Accept: []bool{}, Edges: []api.Edge{}}
	checks(t, "empty", empty, 0, api.OK)
	isList(t, "Alive")(guide.Alive(empty))
	accepts(t, empty, "x", true)
	walks(t, empty, 0, "x", 0)
	isGuide(t, "Least", allTexts())(guide.Least(empty))
	noGuide(t, "Not", api.ErrDead)(guide.Not(empty))
	isGuide(t, "no edges", of("1"))(guide.Least(api.Guide{Accept: []bool{true}, Edges: []api.Edge{}}))
	if guide.State(empty, vocabulary("a"), []int{}) != 0 {
		t.Error("State")
	}
}

// R1: nothing that is handed in stops a call.
func TestNothingPanics(t *testing.T) {
	s := spread(18)
	for range 3000 {
		var g api.Guide
		for range s.below(4) * s.below(30) {
			g.Accept = append(g.Accept, s.coin())
		}
		for range s.below(40) {
			g.Edges = append(g.Edges, edge(s.below(70)-2, byte(s.next()), byte(s.next()), s.below(70)-2))
		}
		v := vocabulary(s.text(s.below(3), "a", "\xff"), "b")
		state := int(s.next()) - 1<<52
		guide.Mask(g, v, state)
		guide.Walk(g, state, "abc")
		guide.Next(g, v, state, int(s.next()))
		guide.State(g, v, []int{int(s.next()), -5})
		guide.Shortest(g)
		guide.Count(g, s.below(1030)-2)
		guide.Or(g, g)
		pattern := s.text(s.below(300), "a", "b", "(", ")", "*", "|", "{2}", "{0,3}", "[", "]", "^", "-", `\`, "x0", "1", "{", "\xff", ".")
		if g, at, e := guide.Compile(pattern); e == api.OK {
			checks(t, pattern, g, 0, api.OK)
		} else if len(g.Accept) != 0 || len(g.Edges) != 0 || at < 0 || at > len(pattern) {
			t.Error(fmt.Sprint(pattern, g, at, e))
		}
	}
}
