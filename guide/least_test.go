package guide_test

import (
	"slices"
	"testing"

	"herald/api"
	"herald/guide"
)

// circle is the guide of the texts of a's whose length n goes into.
func circle(n int) api.Guide {
	g := api.Guide{Accept: make([]bool, n)}
	g.Accept[0] = true
	for state := range n {
		g.Edges = append(g.Edges, edge(state, 'a', 'a', (state+1)%n))
	}
	return g
}

// upTo is the guide of the texts of up to n of some bytes.
func upTo(n int, low, high byte) api.Guide {
	g := many(n+1, 0)
	for state := range n {
		g.Edges = append(g.Edges, edge(state, low, high, state+1))
	}
	return g
}

// striped is a guide of states that all accept, with edges of every other byte, so many from each state, in a circle.
func striped(states, edges int) api.Guide {
	g := many(states, 0)
	for state := range states {
		for i := range edges {
			g.Edges = append(g.Edges, edge(state, byte(2*i), byte(2*i), (state+1)%states))
		}
	}
	return g
}

// 15.9
func TestLeast(t *testing.T) {
	isGuide(t, "no states", allTexts())(guide.Least(of("")))
	isGuide(t, "one state", of("1"))(guide.Least(of("1")))
	isGuide(t, "all texts", allTexts())(guide.Least(allTexts()))
	isGuide(t, "all texts in two states", allTexts())(guide.Least(of("11", edge(0, 0, 127, 1), edge(0, 128, 255, 0), edge(1, 0, 9, 0), edge(1, 10, 255, 1))))
	isGuide(t, "not reached", of("1"))(guide.Least(of("111", edge(1, 'a', 'a', 0), edge(2, 'a', 'a', 1))))
	isGuide(t, "not alive", of("1"))(guide.Least(of("100", edge(0, 'a', 'a', 1), edge(1, 'a', 'a', 2))))
	isGuide(t, "the example", exampleGuide())(guide.Least(of("010", append(exampleGuide().Edges, edge(1, 'c', 'c', 2))...)))
	isGuide(t, "numbered anew", of("010", edge(0, 'a', 'a', 1), edge(0, 'b', 'b', 2), edge(2, 'a', 'a', 1)))(
		guide.Least(of("001", edge(0, 'b', 'b', 1), edge(1, 'a', 'a', 2), edge(0, 'a', 'a', 2))))
	isGuide(t, "edges made one", of("01", edge(0, 'a', 'd', 1), edge(0, 'f', 'f', 1)))(
		guide.Least(of("01", edge(0, 'f', 'f', 1), edge(0, 'c', 'd', 1), edge(0, 'a', 'a', 1), edge(0, 'b', 'b', 1))))
	isGuide(t, "two that are alike", of("011", edge(0, 'a', 'b', 1), edge(1, 'c', 'c', 2)))(
		guide.Least(of("01111", edge(0, 'a', 'a', 1), edge(0, 'b', 'b', 2), edge(1, 'c', 'c', 3), edge(2, 'c', 'c', 4))))
	isGuide(t, "the last bytes", of("01", edge(0, 255, 255, 1), edge(1, 0, 0, 1)))(guide.Least(of("01", edge(0, 255, 255, 1), edge(1, 0, 0, 1))))
	isGuide(t, "a circle", circle(64))(guide.Least(circle(64)))
	isGuide(t, "a circle twice over", circle(3))(guide.Least(of("100100", edge(0, 'a', 'a', 1), edge(1, 'a', 'a', 2), edge(2, 'a', 'a', 3), edge(3, 'a', 'a', 4), edge(4, 'a', 'a', 5), edge(5, 'a', 'a', 0))))
	isGuide(t, "as much as may be", of("0000000011111111", striped(16, 64).Edges...))(guide.Least(of("0000000011111111", striped(16, 64).Edges...)))
}

// 15.9: by the words, of few letters and of bytes of all kinds.
func TestLeastByTheWords(t *testing.T) {
	s := spread(7)
	smaller := 0
	for range 1500 {
		g := s.guide(7, 'a', 1+s.below(3))
		if s.below(4) == 0 {
			g = s.guide(5, byte(s.below(240)), 16)
		}
		want := plainLeast(g)
		if len(want.Accept) < len(g.Accept) {
			smaller++
		}
		isGuide(t, "Least", want)(guide.Least(g))
	}
	if smaller < 300 || smaller > 1400 {
		t.Error(smaller)
	}
}

// 15.9
func TestAndOrNot(t *testing.T) {
	none, all := of(""), allTexts()
	isGuide(t, "And of no states", all)(guide.And(none, none))
	isGuide(t, "Or of no states", all)(guide.Or(none, none))
	isGuide(t, "And of one without states", exampleGuide())(guide.And(none, exampleGuide()))
	isGuide(t, "And of one without states, behind", exampleGuide())(guide.And(exampleGuide(), none))
	isGuide(t, "Or of one without states", all)(guide.Or(none, exampleGuide()))
	isGuide(t, "Or of one without states, behind", all)(guide.Or(exampleGuide(), none))
	isGuide(t, "Not of the empty text", of("01", edge(0, 0, 255, 1), edge(1, 0, 255, 1)))(guide.Not(of("1")))
	isGuide(t, "Not of what begins with a", of("11", edge(0, 0, '`', 1), edge(0, 'b', 255, 1), edge(1, 0, 255, 1)))(guide.Not(of("01", edge(0, 'a', 'a', 1), edge(1, 0, 255, 1))))
	isGuide(t, "Not of a*", of("01", edge(0, 0, '`', 1), edge(0, 'a', 'a', 0), edge(0, 'b', 255, 1), edge(1, 0, 255, 1)))(guide.Not(compiled(t, "a*")))
	isGuide(t, "And", of("01", edge(0, 'b', 'b', 1)))(guide.And(compiled(t, "[ab]"), compiled(t, "[bc]*")))
	isGuide(t, "Or", of("11", edge(0, 'a', 'c', 1)))(guide.Or(compiled(t, "[ab]"), compiled(t, "c?")))
	noGuide(t, "And of texts that are not the same", api.ErrDead)(guide.And(compiled(t, "a+"), compiled(t, "b+|")))
	noGuide(t, "Not of all", api.ErrDead)(guide.Not(all))
	noGuide(t, "Not of no states", api.ErrDead)(guide.Not(none))
}

// 15.9: by the words: what is made accepts just what it should, and is the least.
func TestAndOrNotByTheWords(t *testing.T) {
	s := spread(8)
	all := allOver(6, "abc")
	met := map[api.Errno]int{}
	for range 600 {
		a, b := s.guide(5, 'a', 3), s.guide(5, 'a', 3)
		for what, c := range map[string]struct {
			call func() (api.Guide, api.Errno)
			want func(text string) bool
		}{
			"And": {func() (api.Guide, api.Errno) { return guide.And(a, b) }, func(text string) bool { return plainAccepts(a, text) && plainAccepts(b, text) }},
			"Or":  {func() (api.Guide, api.Errno) { return guide.Or(a, b) }, func(text string) bool { return plainAccepts(a, text) || plainAccepts(b, text) }},
			"Not": {func() (api.Guide, api.Errno) { return guide.Not(a) }, func(text string) bool { return !plainAccepts(a, text) }},
		} {
			g, e := c.call()
			met[e]++
			if e == api.ErrDead && what != "Or" {
				if slices.ContainsFunc(all, c.want) {
					t.Error(what, a, b)
				}
				continue
			}
			isGuide(t, what, plainLeast(g))(g, e)
			for _, text := range all {
				if plainAccepts(g, text) != c.want(text) {
					t.Fatal(what, a, b, g, text)
				}
			}
		}
	}
	if met[api.OK] < 1200 || met[api.ErrDead] < 20 {
		t.Error(met)
	}
}

// 15.9, R6: as many states as may be, and one more.
func TestStatesAtTheLimit(t *testing.T) {
	isGuide(t, "And of 64", circle(64))(guide.And(circle(64), circle(2)))
	isGuide(t, "And of 56", circle(56))(guide.And(circle(7), circle(8)))
	noGuide(t, "And of 65", api.ErrStates)(guide.And(circle(5), circle(13)))
	noGuide(t, "And of 4032", api.ErrStates)(guide.And(circle(63), circle(64)))
	noGuide(t, "Or of 4032", api.ErrStates)(guide.Or(circle(63), circle(64)))
	noGuide(t, "Or of 72", api.ErrStates)(guide.Or(circle(8), circle(9)))
	isGuide(t, "Or of 64", upTo(63, 'a', 'a'))(guide.Or(upTo(63, 'a', 'a'), upTo(20, 'a', 'a')))
	noGuide(t, "Or of 65", api.ErrStates)(guide.Or(upTo(63, 'a', 'a'), compiled(t, "b{2}")))
	if g, e := guide.Not(upTo(62, 'a', 'z')); len(g.Accept) != 64 || e != api.OK {
		t.Error(g, e)
	}
	noGuide(t, "Not of 64 and nowhere", api.ErrStates)(guide.Not(upTo(63, 'a', 'z')))
	full := upTo(63, 0, 255)
	full.Edges = append(full.Edges, edge(63, 0, 255, 63))
	full.Accept[63] = false
	isGuide(t, "Not of 64 without nowhere", func() api.Guide {
		g := full
		g.Accept = make([]bool, 64)
		g.Accept[63] = true
		return g
	}())(guide.Not(full))
}

// 15.9, R6: as many edges as may be, and one more.
func TestEdgesAtTheLimit(t *testing.T) {
	most := striped(33, 32)
	most.Accept = make([]bool, 33)
	most.Accept[32] = true
	most.Edges = most.Edges[:1024]
	less := api.Guide{Accept: most.Accept, Edges: most.Edges[1:]}
	full := api.Guide{Accept: most.Accept, Edges: slices.Insert(slices.Clone(most.Edges[1:]), 0, edge(0, 1, 1, 32))}
	one := of("01", edge(0, 1, 1, 1))
	isGuide(t, "Least of 1024", most)(guide.Least(most))
	isGuide(t, "And of 1024", most)(guide.And(most, most))
	isGuide(t, "Or of 1023", less)(guide.Or(less, less))
	isGuide(t, "Or of 1024", plainLeast(full))(guide.Or(less, one))
	noGuide(t, "Or of 1025", api.ErrEdge)(guide.Or(most, one))
	noGuide(t, "Or of 1025, the other way", api.ErrEdge)(guide.Or(one, most))
	noGuide(t, "Not", api.ErrEdge)(guide.Not(most))
}

// 15.9
func TestEqual(t *testing.T) {
	for _, c := range []struct {
		a, b api.Guide
		want bool
	}{
		{of(""), of(""), true},
		{of(""), allTexts(), true},
		{of(""), of("1"), false},
		{of(""), of("1", edge(0, 0, 254, 0)), false},
		{of("1"), of("10", edge(0, 'a', 'a', 1)), true},
		{of("1"), of("11", edge(0, 'a', 'a', 1)), false},
		{of("1"), of("11", edge(1, 'a', 'a', 1)), true},
		{circle(2), circle(4), false},
		{circle(63), circle(64), false},
		{upTo(63, 'a', 'b'), upTo(63, 'a', 'a'), false},
		{upTo(62, 'a', 'a'), upTo(63, 'a', 'a'), false},
		{compiled(t, "(a|b)*"), compiled(t, "(a*b*)*"), true},
		{compiled(t, "(ab)*a"), compiled(t, "a(ba)*"), true},
		{compiled(t, "(ab)*a"), compiled(t, "a(ba)+"), false},
	} {
		for _, both := range [][2]api.Guide{{c.a, c.b}, {c.b, c.a}, {c.a, c.a}} {
			want := c.want || same(both[0], both[1])
			if ok, e := guide.Equal(both[0], both[1]); ok != want || e != api.OK {
				t.Errorf("Equal(%v, %v): %v, %d", both[0], both[1], ok, e)
			}
		}
	}
}

// 15.9: by the words.
func TestEqualByTheWords(t *testing.T) {
	s := spread(9)
	met := map[bool]int{}
	for range 3000 {
		a, b := s.guide(1+s.below(4), 'a', 2), s.guide(1+s.below(4), 'a', 2)
		// Two guides of n states together that accept the same texts of less than n bytes accept the same.
		want := true
		for _, text := range allOver(8, "ab") {
			if plainAccepts(a, text) != plainAccepts(b, text) {
				want = false
				break
			}
		}
		met[want]++
		if ok, e := guide.Equal(a, b); ok != want || e != api.OK {
			t.Errorf("Equal(%v, %v): %v, %d", a, b, ok, e)
		}
	}
	if met[true] < 100 || met[false] < 100 {
		t.Error(met)
	}
}
