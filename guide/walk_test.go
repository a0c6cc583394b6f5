package guide_test

import (
	"math"
	"strings"
	"testing"

	"herald/api"
	"herald/guide"
)

// walks asks where a text leads.
func walks(t *testing.T, g api.Guide, state int, text string, want int) {
	t.Helper()
	if to := guide.Walk(g, state, text); to != want {
		t.Errorf("Walk(%v, %d, %q): %d and not %d", g, state, text, to, want)
	}
}

// accepts asks whether a text is accepted.
func accepts(t *testing.T, g api.Guide, text string, want bool) {
	t.Helper()
	if ok := guide.Accepts(g, text); ok != want {
		t.Errorf("Accepts(%v, %q): %v", g, text, ok)
	}
}

// 15.3
func TestWalk(t *testing.T) {
	g := of("010", edge(0, 'a', 'c', 1), edge(1, 'b', 'b', 0), edge(1, 'c', 'c', 2), edge(2, 0, 0, 0), edge(2, 255, 255, 1))
	for state := range 3 {
		walks(t, g, state, "", state)
	}
	walks(t, g, 0, "a", 1)
	walks(t, g, 0, "c", 1)
	walks(t, g, 0, "`", -1)
	walks(t, g, 0, "d", -1)
	walks(t, g, 0, "abc", 1)
	walks(t, g, 0, "aba", 1)
	walks(t, g, 0, "abd", -1)
	walks(t, g, 0, "abda", -1)
	walks(t, g, 1, "c\x00", 0)
	walks(t, g, 1, "c\xff", 1)
	walks(t, g, 2, "\x01", -1)
	walks(t, g, 0, strings.Repeat("ab", 100000), 0)
	for _, state := range []int{-1, 3, 64, math.MinInt, math.MaxInt} {
		walks(t, g, state, "", -1)
		walks(t, g, state, "a", -1)
	}
}

// 15.3, 15.5: of a guide without states all leads back.
func TestWalkWithoutStates(t *testing.T) {
	for _, text := range texts("", "a", "\x00\xff", strings.Repeat("x", 1000)) {
		walks(t, of(""), 0, text, 0)
		walks(t, of(""), -1, text, -1)
		walks(t, of(""), 1, text, -1)
		accepts(t, of(""), text, true)
	}
}

// 15.3: a text leads to a state that is not alive as to any other one.
func TestWalkToTheDead(t *testing.T) {
	g := of("100", edge(0, 'a', 'a', 1), edge(1, 'b', 'b', 2))
	walks(t, g, 0, "a", 1)
	walks(t, g, 0, "ab", 2)
	walks(t, g, 1, "b", 2)
	accepts(t, g, "", true)
	accepts(t, g, "a", false)
}

// 15.5
func TestAccepts(t *testing.T) {
	g := of("0110", edge(0, 'a', 'a', 1), edge(1, 'a', 'a', 3), edge(3, 'a', 'a', 2), edge(2, 0, 255, 2))
	accepts(t, g, "", false)
	accepts(t, g, "a", true)
	accepts(t, g, "aa", false)
	accepts(t, g, "aaa", true)
	accepts(t, g, "aaa\x00\xffz", true)
	accepts(t, g, "b", false)
	accepts(t, g, "aab", false)
	accepts(t, of("1"), "", true)
	accepts(t, of("1"), "a", false)
}

// 15.3, 15.5: by the words.
func TestWalkByTheWords(t *testing.T) {
	s := spread(2)
	nowhere := 0
	for range 20000 {
		g := s.guide(6, 'a', 4)
		text, state := s.text(s.below(7), "a", "b", "c", "d", "b", "c", "e"), s.below(8)-1
		want := plainWalk(g, state, text)
		walks(t, g, state, text, want)
		accepts(t, g, text, plainAccepts(g, text))
		if want < 0 {
			nowhere++
		}
	}
	if nowhere < 2000 || nowhere > 18000 {
		t.Error(nowhere)
	}
}

// 15.5
func TestNext(t *testing.T) {
	g, v := of("010", edge(0, 'a', 'a', 1), edge(1, 'b', 'b', 2)), vocabulary("a", "b", "ab", "c")
	for _, c := range []struct{ state, token, want int }{
		{0, 1, 1}, {0, 2, -1}, {0, 3, 2}, {0, 4, -1}, {1, 1, -1}, {1, 2, 2}, {1, 3, -1}, {2, 1, -1},
		{0, 0, -1}, {1, 0, -1}, {0, -1, -1}, {0, 5, -1}, {0, math.MinInt, -1}, {0, math.MaxInt, -1},
		{-1, 1, -1}, {3, 1, -1}, {-1, 0, -1}, {math.MaxInt, 3, -1}, {math.MinInt, 3, -1},
	} {
		if to := guide.Next(g, v, c.state, c.token); to != c.want {
			t.Errorf("Next(%d, %d): %d and not %d", c.state, c.token, to, c.want)
		}
	}
	for _, wrong := range []api.Vocab{{}, {Texts: texts("", "a", "a")}, {Texts: texts("", "a", "b", "ab"), Merges: []api.Merge{{}}}} {
		if guide.Next(g, wrong, 0, 1) != -1 || guide.State(g, wrong, []int{1}) != -1 {
			t.Error(wrong)
		}
	}
	none := of("")
	for token, want := range []int{-1, 0, 0, 0, 0, -1} {
		if to := guide.Next(none, v, 0, token); to != want || guide.Next(none, v, -1, token) != -1 || guide.Next(none, v, 1, token) != -1 {
			t.Errorf("Next without states: %d: %d", token, to)
		}
	}
}

// 15.5
func TestState(t *testing.T) {
	g, v := of("010", edge(0, 'a', 'a', 1), edge(1, 'b', 'b', 2), edge(2, 'c', 'c', 0)), vocabulary("a", "b", "ab", "c")
	for _, c := range []struct {
		tokens []int
		want   int
	}{
		{nil, 0}, {[]int{}, 0}, {[]int{1}, 1}, {[]int{1, 2}, 2}, {[]int{3}, 2}, {[]int{3, 4}, 0}, {[]int{3, 4, 1}, 1},
		{[]int{2}, -1}, {[]int{2, 1}, -1}, {[]int{0}, -1}, {[]int{1, 0}, -1}, {[]int{1, 0, 2}, -1}, {[]int{5}, -1}, {[]int{-1}, -1}, {[]int{1, 9, 2}, -1},
	} {
		if to := guide.State(g, v, c.tokens); to != c.want {
			t.Errorf("State(%v): %d and not %d", c.tokens, to, c.want)
		}
	}
	if guide.State(of(""), v, []int{1, 2, 3, 4, 4}) != 0 || guide.State(of(""), v, []int{1, 0}) != -1 || guide.State(of(""), v, nil) != 0 {
		t.Error("State without states")
	}
}

// 15.5: no tokens ask nothing of a guide or a vocabulary.
func TestStateOfNothing(t *testing.T) {
	if guide.State(of("0"), vocabulary("a"), nil) != 0 || guide.State(of("1"), api.Vocab{}, []int{}) != 0 {
		t.Error("State")
	}
}

// 15.5: State goes by Next.
func TestStateByTheWords(t *testing.T) {
	s := spread(3)
	v := vocabulary("a", "b", "c", "d", "ab", "bcd", "dd")
	for range 3000 {
		g := s.guide(6, 'a', 4)
		state, tokens := 0, []int{}
		for range s.below(6) {
			tokens = append(tokens, 1+s.below(len(v.Texts)+1)%8)
		}
		for _, token := range tokens {
			state = guide.Next(g, v, state, token)
		}
		if to := guide.State(g, v, tokens); to != state {
			t.Errorf("State(%v, %v): %d and not %d", g, tokens, to, state)
		}
	}
}
