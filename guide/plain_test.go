package guide_test

import (
	"fmt"
	"slices"
	"strings"
	"testing"

	"herald/api"
	"herald/guide"
)

// of is a guide: of each state 1, if it accepts, then the edges.
func of(states string, edges ...api.Edge) api.Guide {
	var accept []bool
	for _, c := range states {
		accept = append(accept, c == '1')
	}
	return api.Guide{Accept: accept, Edges: edges}
}

// edge is an edge.
func edge(from int, low, high byte, to int) api.Edge {
	return api.Edge{From: from, Low: low, High: high, To: to}
}

// vocabulary is the end and some texts.
func vocabulary(texts ...string) api.Vocab {
	return api.Vocab{Texts: append([]string{""}, texts...)}
}

// texts is a list of texts.
func texts(l ...string) []string { return l }

// allTexts is the guide of all texts, with a state.
func allTexts() api.Guide { return of("1", edge(0, 0, 255, 0)) }

// same tells whether two guides have the same states and edges.
func same(a, b api.Guide) bool {
	return slices.Equal(a.Accept, b.Accept) && slices.Equal(a.Edges, b.Edges)
}

// isGuide asks for just this guide, and no error.
func isGuide(t *testing.T, what string, want api.Guide) func(got api.Guide, e api.Errno) {
	return func(got api.Guide, e api.Errno) {
		t.Helper()
		if !same(got, want) || e != api.OK {
			t.Errorf("%s: %v, %d and not %v", what, got, e, want)
		}
	}
}

// noGuide asks for an error, and for no guide beside it.
func noGuide(t *testing.T, what string, want api.Errno) func(got api.Guide, e api.Errno) {
	return func(got api.Guide, e api.Errno) {
		t.Helper()
		if len(got.Accept) != 0 || len(got.Edges) != 0 || e != want {
			t.Errorf("%s: %v, %d and not %d", what, got, e, want)
		}
	}
}

// isTold asks for just this, and no error.
func isTold[T any](t *testing.T, what string, want T) func(got T, e api.Errno) {
	return func(got T, e api.Errno) {
		t.Helper()
		if fmt.Sprint(got) != fmt.Sprint(want) || e != api.OK {
			t.Errorf("%s: %v, %d and not %v", what, got, e, want)
		}
	}
}

// isList asks for just these, and no error.
func isList(t *testing.T, what string, want ...bool) func(got []bool, e api.Errno) {
	return func(got []bool, e api.Errno) {
		t.Helper()
		if !slices.Equal(got, want) || e != api.OK {
			t.Errorf("%s: %v, %d and not %v", what, got, e, want)
		}
	}
}

// noList asks for an error, and for no list beside it.
func noList(t *testing.T, what string, want api.Errno) func(got []bool, e api.Errno) {
	return func(got []bool, e api.Errno) {
		t.Helper()
		if len(got) != 0 || e != want {
			t.Errorf("%s: %v, %d and not %d", what, got, e, want)
		}
	}
}

// compiled is the guide of a pattern that has one.
func compiled(t *testing.T, pattern string) api.Guide {
	t.Helper()
	g, at, e := guide.Compile(pattern)
	if at != 0 || e != api.OK {
		t.Fatalf("Compile(%q): %d, %d", pattern, at, e)
	}
	return g
}

// compiles asks for the guide of a pattern.
func compiles(t *testing.T, pattern string, want api.Guide) {
	t.Helper()
	isGuide(t, pattern, want)(compiled(t, pattern), api.OK)
}

// refuses asks for the fault of a pattern, and for no guide beside it.
func refuses(t *testing.T, pattern string, place int, err api.Errno) {
	t.Helper()
	g, at, e := guide.Compile(pattern)
	if len(g.Accept) != 0 || len(g.Edges) != 0 || at != place || e != err {
		t.Errorf("Compile(%q): %v, %d, %d and not %d, %d", pattern, g, at, e, place, err)
	}
}

// spread is numbers from 0 to less than a bound, in no order that the eye could tell, always the same ones.
type spread uint64

func (s *spread) next() uint64 {
	*s = *s*6364136223846793005 + 1442695040888963407
	return uint64(*s >> 11)
}

func (s *spread) below(bound int) int { return int(s.next() % uint64(bound)) }

func (s *spread) coin() bool { return s.below(2) == 0 }

// text is n of some texts, one behind the other.
func (s *spread) text(n int, of ...string) string {
	var text strings.Builder
	for range n {
		text.WriteString(of[s.below(len(of))])
	}
	return text.String()
}

// guide is a guide that is right, of at most so many states, with edges by the bytes from low on, so many of them.
func (s *spread) guide(states int, low byte, letters int) api.Guide {
	for {
		var g api.Guide
		for range 1 + s.below(states) {
			g.Accept = append(g.Accept, s.below(3) == 0)
		}
		for from := range g.Accept {
			for b := 0; b < letters; b++ {
				wide := min(1+s.below(2), letters-b)
				if s.below(4) > 0 {
					g.Edges = append(g.Edges, edge(from, low+byte(b), low+byte(b+wide-1), s.below(len(g.Accept))))
				}
				b += wide - 1
			}
		}
		s.shuffle(g.Edges)
		if _, e := plainCheck(g); e == api.OK {
			return g
		}
	}
}

func (s *spread) shuffle(l []api.Edge) {
	for i := range l {
		j := s.below(i + 1)
		l[i], l[j] = l[j], l[i]
	}
}

// allOver is all texts of up to n bytes of some.
func allOver(n int, of string) []string {
	l := texts("")
	for from := 0; n > 0; n-- {
		to := len(l)
		for _, text := range l[from:to] {
			for i := range len(of) {
				l = append(l, text+of[i:i+1])
			}
		}
		from = to
	}
	return l
}

// plainCheck is Check by the words.
func plainCheck(g api.Guide) (int, api.Errno) {
	if len(g.Accept) > 64 {
		return 64, api.ErrStates
	}
	if len(g.Edges) > 1024 {
		return 1024, api.ErrEdge
	}
	for i, e := range g.Edges {
		wrong := e.From < 0 || e.From >= len(g.Accept) || e.To < 0 || e.To >= len(g.Accept) || e.Low > e.High
		for _, other := range g.Edges[:i] {
			wrong = wrong || e.From == other.From && e.Low <= other.High && other.Low <= e.High
		}
		if wrong {
			return i, api.ErrEdge
		}
	}
	if len(g.Accept) > 0 && !plainAlive(g, 0) {
		return 0, api.ErrDead
	}
	return 0, api.OK
}

// plainAlive is whether a state is alive, by going on from it.
func plainAlive(g api.Guide, state int) bool {
	met := make([]bool, len(g.Accept))
	var goOn func(state int) bool
	goOn = func(state int) bool {
		if g.Accept[state] {
			return true
		}
		met[state] = true
		for _, e := range g.Edges {
			if e.From == state && !met[e.To] && goOn(e.To) {
				return true
			}
		}
		return false
	}
	return goOn(state)
}

// plainWalk is Walk by the words, of a right guide with states.
func plainWalk(g api.Guide, state int, text string) int {
	if state < 0 || state >= len(g.Accept) {
		return -1
	}
	for i := range len(text) {
		at := slices.IndexFunc(g.Edges, func(e api.Edge) bool { return e.From == state && e.Low <= text[i] && text[i] <= e.High })
		if at < 0 {
			return -1
		}
		state = g.Edges[at].To
	}
	return state
}

// plainAccepts is Accepts by the words, of a right guide.
func plainAccepts(g api.Guide, text string) bool {
	if len(g.Accept) == 0 {
		return true
	}
	state := plainWalk(g, 0, text)
	return state >= 0 && g.Accept[state]
}

// grid is an automaton with each step written out; -1 is nowhere.
type grid struct {
	accept []bool
	steps  [][256]int
}

// plainGrid is a right guide with states as a grid.
func plainGrid(g api.Guide) grid {
	m := grid{g.Accept, make([][256]int, len(g.Accept))}
	for state := range m.steps {
		for b := range 256 {
			m.steps[state][b] = plainWalk(g, state, string([]byte{byte(b)}))
		}
	}
	return m
}

// apart is of each two states whether some text is accepted from one of them alone; the last row and column are nowhere's.
func (m grid) apart() [][]bool {
	n := len(m.accept)
	table := make([][]bool, n+1)
	for a := range table {
		table[a] = make([]bool, n+1)
		for b := range table[a] {
			table[a][b] = (a < n && m.accept[a]) != (b < n && m.accept[b])
		}
	}
	step := func(state, by int) int {
		if state == n || m.steps[state][by] < 0 {
			return n
		}
		return m.steps[state][by]
	}
	for again := true; again; {
		again = false
		for a := range table {
			for b := range table[a] {
				for by := 0; by < 256 && !table[a][b]; by++ {
					if table[step(a, by)][step(b, by)] {
						table[a][b], again = true, true
					}
				}
			}
		}
	}
	return table
}

// plainLeast is the least guide of what a right guide with states accepts: of states that are not apart the first one that is met counts.
func plainLeast(g api.Guide) api.Guide {
	m := plainGrid(g)
	apart := m.apart()
	var least api.Guide
	met := []int{0}
	for from := 0; from < len(met); from++ {
		least.Accept = append(least.Accept, m.accept[met[from]])
		for by, to := range m.steps[met[from]] {
			if to < 0 || !apart[to][len(m.accept)] {
				continue
			}
			number := slices.IndexFunc(met, func(state int) bool { return !apart[state][to] })
			if number < 0 {
				number = len(met)
				met = append(met, to)
			}
			n := len(least.Edges)
			if n > 0 && least.Edges[n-1].From == from && least.Edges[n-1].To == number && int(least.Edges[n-1].High)+1 == by {
				least.Edges[n-1].High++
			} else {
				least.Edges = append(least.Edges, edge(from, byte(by), byte(by), number))
			}
		}
	}
	return least
}
