package guide_test

import (
	"strings"
	"testing"

	"herald/api"
	"herald/guide"
)

// 15.6: rows of tokens that may follow one another, by all ways that chance may go.
func TestRowsThatMayFollow(t *testing.T) {
	s := spread(12)
	ends, stuck := 0, 0
	for range 1500 {
		g := s.guide(6, 'a', 3)
		v := vocabulary("a", "b", "ab", "ca", "bb", "cab")
		if s.coin() {
			v = vocabulary("c", "bc", "aa")
		}
		state, said := 0, ""
		for range 12 {
			mask, e := guide.Mask(g, v, state)
			if e != api.OK {
				t.Fatal(g, state, e)
			}
			var may []int
			for token, ok := range mask {
				if ok {
					may = append(may, token)
				}
			}
			if len(may) == 0 {
				t.Fatal("nothing may follow", g, state)
			}
			token := may[s.below(len(may))]
			if token == 0 {
				if g.Accept[state] {
					ends++
					accepts(t, g, said, true)
				} else {
					stuck++
				}
				break
			}
			state = guide.Next(g, v, state, token)
			said += v.Texts[token]
			if alive, _ := guide.Alive(g); state < 0 || !alive[state] {
				t.Fatal("not alive", g, said)
			}
		}
	}
	if ends < 300 || stuck < 10 {
		t.Error(ends, stuck)
	}
}

// 15.6: the same of the guides of patterns, and of one without states.
func TestRowsOfPatterns(t *testing.T) {
	s := spread(13)
	v := vocabulary("{", "}", `"`, "a", "b", ":", "0", "1", "12", "2", ",", `":`, "true", "e")
	for _, g := range []api.Guide{of(""), compiled(t, `\{"[ab]+":(-?\d{1,5}|true)(,"[ab]+":\d{1,2})*\}`), compiled(t, "(true|12|a)?")} {
		for range 100 {
			var tokens []int
			for {
				mask, _ := guide.Mask(g, v, guide.State(g, v, tokens))
				token := s.below(len(mask))
				if !mask[token] {
					continue
				}
				if token == 0 {
					break
				}
				tokens = append(tokens, token)
			}
			var said strings.Builder
			for _, token := range tokens {
				said.WriteString(v.Texts[token])
			}
			accepts(t, g, said.String(), true)
		}
	}
}

// 15.10: Least of Least is Least, and Not of Not is; both are the same just of guides that are equal.
func TestLeastOfLeast(t *testing.T) {
	s := spread(14)
	equal := 0
	for range 1500 {
		a, b := s.guide(1+s.below(5), 'a', 2), s.guide(1+s.below(5), 'a', 2)
		first, _ := guide.Least(a)
		second, _ := guide.Least(b)
		isGuide(t, "Least of Least", first)(guide.Least(first))
		ok, e := guide.Equal(a, b)
		if ok != same(first, second) || e != api.OK {
			t.Errorf("Equal(%v, %v): %v, %d", a, b, ok, e)
		}
		if ok {
			equal++
		}
		if not, e := guide.Not(a); e == api.OK {
			isGuide(t, "Not of Not", first)(guide.Not(not))
		} else if ok, _ := guide.Equal(a, of("")); e != api.ErrDead || !ok {
			t.Errorf("Not(%v): %d", a, e)
		}
		text, e := guide.Shortest(a)
		accepts(t, a, text, true)
		if other, _ := guide.Shortest(first); other != text || e != api.OK {
			t.Errorf("Shortest(%v): %q, %q, %d", a, text, other, e)
		}
		n := s.below(30)
		count, ok, _ := guide.Count(a, n)
		counts(t, first, n, count, ok)
	}
	if equal < 30 {
		t.Error(equal)
	}
}

// 15.10: And is Not of Or of both Nots.
func TestAndByNots(t *testing.T) {
	s := spread(15)
	met := 0
	for range 1000 {
		a, b := s.guide(4, 'a', 3), s.guide(4, 'a', 3)
		notA, e := guide.Not(a)
		notB, f := guide.Not(b)
		if e != api.OK || f != api.OK {
			continue
		}
		either, e := guide.Or(notA, notB)
		if e != api.OK {
			t.Error(e)
			continue
		}
		want, e := guide.Not(either)
		if e != api.OK {
			noGuide(t, "And", e)(guide.And(a, b))
			continue
		}
		met++
		isGuide(t, "And", want)(guide.And(a, b))
	}
	if met < 300 {
		t.Error(met)
	}
}

// 15.10: of two patterns with | between it is Or of both; of what is compiled Least is the same.
func TestCompileOfEither(t *testing.T) {
	s := spread(16)
	met := 0
	for range 500 {
		p, q := s.pattern(1), s.pattern(1)
		a, _, e := guide.Compile(p)
		b, _, f := guide.Compile(q)
		either, _, both := guide.Compile(p + "|" + q)
		if e != api.OK || f != api.OK || both != api.OK {
			continue
		}
		met++
		isGuide(t, p+" or "+q, either)(guide.Or(a, b))
		isGuide(t, p, a)(guide.Least(a))
		checks(t, p, a, 0, api.OK)
	}
	if met < 300 {
		t.Error(met)
	}
}
