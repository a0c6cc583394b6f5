package guide_test

import (
	"regexp"
	"strings"
	"testing"

	"herald/api"
	"herald/guide"
)

// 15.7: which bytes an atom reads.
func TestAtoms(t *testing.T) {
	wordBytes := []api.Edge{edge(0, '0', '9', 1), edge(0, 'A', 'Z', 1), edge(0, '_', '_', 1), edge(0, 'a', 'z', 1)}
	spaces := []api.Edge{edge(0, 9, 10, 1), edge(0, 13, 13, 1), edge(0, ' ', ' ', 1)}
	for pattern, edges := range map[string][]api.Edge{
		"a": {edge(0, 'a', 'a', 1)}, " ": {edge(0, ' ', ' ', 1)}, "~": {edge(0, '~', '~', 1)}, "-": {edge(0, '-', '-', 1)}, ",": {edge(0, ',', ',', 1)}, "/": {edge(0, '/', '/', 1)},
		".":  {edge(0, 0, 9, 1), edge(0, 11, 255, 1)},
		`\n`: {edge(0, 10, 10, 1)}, `\r`: {edge(0, 13, 13, 1)}, `\t`: {edge(0, 9, 9, 1)},
		`\d`: {edge(0, '0', '9', 1)}, `\w`: wordBytes, `\s`: spaces,
		`\x00`: {edge(0, 0, 0, 1)}, `\xff`: {edge(0, 255, 255, 1)}, `\x0a`: {edge(0, 10, 10, 1)}, `\x9b`: {edge(0, 155, 155, 1)},
		"[a]": {edge(0, 'a', 'a', 1)}, "[ac]": {edge(0, 'a', 'a', 1), edge(0, 'c', 'c', 1)}, "[ab]": {edge(0, 'a', 'b', 1)}, "[ba]": {edge(0, 'a', 'b', 1)}, "[aa]": {edge(0, 'a', 'a', 1)},
		"[a-c]": {edge(0, 'a', 'c', 1)}, "[a-a]": {edge(0, 'a', 'a', 1)}, "[a-cb-d]": {edge(0, 'a', 'd', 1)}, "[x-za-c]": {edge(0, 'a', 'c', 1), edge(0, 'x', 'z', 1)},
		"[^a]": {edge(0, 0, '`', 1), edge(0, 'b', 255, 1)}, "[^a-z]": {edge(0, 0, '`', 1), edge(0, '{', 255, 1)}, `[^\n]`: {edge(0, 0, 9, 1), edge(0, 11, 255, 1)},
		`[\d]`: {edge(0, '0', '9', 1)}, `[\w]`: wordBytes, `[\s]`: spaces, `[\d_a-zA-Z]`: wordBytes,
		`[\-]`: {edge(0, '-', '-', 1)}, `[\\]`: {edge(0, '\\', '\\', 1)}, `[+-\-]`: {edge(0, '+', '-', 1)}, `[\--/]`: {edge(0, '-', '/', 1)}, `[\x00-\xff]`: {edge(0, 0, 255, 1)},
		`[ -~]`: {edge(0, ' ', '~', 1)}, `[\t-\r]`: {edge(0, 9, 13, 1)}, `[\x41-Z]`: {edge(0, 'A', 'Z', 1)}, "[!-/]": {edge(0, '!', '/', 1)}, `[\^-a]`: {edge(0, '^', 'a', 1)}, `[\[-\]]`: {edge(0, '[', ']', 1)},
		"[.]": {edge(0, '.', '.', 1)}, "[(|)*+?{}$]": {edge(0, '$', '$', 1), edge(0, '(', '+', 1), edge(0, '?', '?', 1), edge(0, '{', '}', 1)}, `[a\-z]`: {edge(0, '-', '-', 1), edge(0, 'a', 'a', 1), edge(0, 'z', 'z', 1)},
		"(a)": {edge(0, 'a', 'a', 1)}, "((a))": {edge(0, 'a', 'a', 1)}, "()a": {edge(0, 'a', 'a', 1)}, "a()": {edge(0, 'a', 'a', 1)}, "a|b": {edge(0, 'a', 'b', 1)}, "(a|b)": {edge(0, 'a', 'b', 1)},
	} {
		compiles(t, pattern, of("01", edges...))
	}
	for _, sign := range `\|()[]{}.*+?^$` {
		compiles(t, `\`+string(sign), of("01", edge(0, byte(sign), byte(sign), 1)))
		compiles(t, `[\`+string(sign)+`]`, of("01", edge(0, byte(sign), byte(sign), 1)))
	}
	for b := byte(32); b <= 126; b++ {
		if !strings.ContainsRune(`\|()[]{}.*+?^$`, rune(b)) {
			compiles(t, string(rune(b)), of("01", edge(0, b, b, 1)))
		}
		if !strings.ContainsRune(`\][^-`, rune(b)) {
			compiles(t, "["+string(rune(b))+"]", of("01", edge(0, b, b, 1)))
		}
	}
}

// 15.7: rows, alternatives and repetitions.
func TestPatterns(t *testing.T) {
	empty, any, some := of("1"), of("1", edge(0, 'a', 'a', 0)), of("01", edge(0, 'a', 'a', 1), edge(1, 'a', 'a', 1))
	for pattern, want := range map[string]api.Guide{
		"()": empty, "|": empty, "(|)": empty, "()*": empty, "(()|())+": empty, "a{0}": empty, "a{0,0}": empty, "(ab){0}": empty, "(){5}": empty, "(){3,}": empty,
		"a*": any, "a{0,}": any, "(a*)*": any, "(a+)?": any, "(a?)+": any, "(a?){3,}": any, "a*a*": any, "a*|a+": any, "(|a)*": any, "(a{2,3}|a)*": any,
		"a+": some, "a{1,}": some, "aa*": some, "a*a": some, "(a+)+": some, "a|a{2,}": some,
		"a?": of("11", edge(0, 'a', 'a', 1)), "a{0,1}": of("11", edge(0, 'a', 'a', 1)), "|a": of("11", edge(0, 'a', 'a', 1)), "a|": of("11", edge(0, 'a', 'a', 1)),
		"a{2}": of("001", edge(0, 'a', 'a', 1), edge(1, 'a', 'a', 2)), "a{2,2}": of("001", edge(0, 'a', 'a', 1), edge(1, 'a', 'a', 2)),
		"a{2,}": of("001", edge(0, 'a', 'a', 1), edge(1, 'a', 'a', 2), edge(2, 'a', 'a', 2)), "(a?){2}": of("111", edge(0, 'a', 'a', 1), edge(1, 'a', 'a', 2)),
		"(ab)*": of("10", edge(0, 'a', 'a', 1), edge(1, 'b', 'b', 0)), "ab|cd": of("0001", edge(0, 'a', 'a', 1), edge(0, 'c', 'c', 2), edge(1, 'b', 'b', 3), edge(2, 'd', 'd', 3)),
		"ab*": of("01", edge(0, 'a', 'a', 1), edge(1, 'b', 'b', 1)), "ab|c": of("001", edge(0, 'a', 'a', 1), edge(0, 'c', 'c', 2), edge(1, 'b', 'b', 2)),
		"a(b|c)d": of("0001", edge(0, 'a', 'a', 1), edge(1, 'b', 'c', 2), edge(2, 'd', 'd', 3)),
		`(.|\n)*`: allTexts(), `[\x00-\xff]*`: allTexts(), `[^a]*|[^b]*|.*|\s*|[^\n]*|(.|\n)*`: allTexts(),
		`-?(0|[1-9]\d*)`: of("0011", edge(0, '-', '-', 1), edge(0, '0', '0', 2), edge(0, '1', '9', 3), edge(1, '0', '0', 2), edge(1, '1', '9', 3), edge(3, '0', '9', 3)),
	} {
		compiles(t, pattern, want)
	}
}

// 15.8: patterns that say nothing.
func TestPatternsOfNothing(t *testing.T) {
	none := `[^\x00-\xff]`
	for _, pattern := range texts(none, none+"a", "a"+none, none+"+", none+"|"+none, "("+none+")", "a*"+none+"b*", none+"{2}", none+"{1,3}", "("+none+"|a"+none+"){2}", `[^\d\x00-/:-\xff]`) {
		refuses(t, pattern, 0, api.ErrDead)
	}
	for _, pattern := range texts(none+"*", none+"?", none+"{0}", none+"|", "("+none+"a)*") {
		compiles(t, pattern, of("1"))
	}
	compiles(t, none+"|a|b"+none, of("01", edge(0, 'a', 'a', 1)))
}

// pattern is a pattern of a few letters, of so many pieces within pieces at most.
func (s *spread) pattern(depth int) string {
	row := func() string {
		var l []string
		for range s.below(4) {
			l = append(l, s.piece(depth))
		}
		return strings.Join(l, "")
	}
	alternatives := []string{row()}
	for s.below(3) == 0 {
		alternatives = append(alternatives, row())
	}
	return strings.Join(alternatives, "|")
}

func (s *spread) piece(depth int) string {
	atom := s.text(1, "a", "b", "c", "a", "b", ".", `\n`, `\x61`, "[ab]", "[^a]", "[^bc]", "[a-c]", `[b-c\n]`, `\w`, `[^\w]`, `\s`, `[^\s]`, `\d`)
	if depth > 0 && s.coin() {
		atom = "(" + s.pattern(depth-1) + ")"
	}
	return atom + s.text(1, "", "", "", "*", "+", "?", "{2}", "{0,2}", "{1,3}", "{2,}", "{0,}", "{0}", "{3}")
}

// plainPattern is a pattern of which the bytes are asked of characters by the library.
func plainPattern(pattern string) *regexp.Regexp {
	pattern = strings.ReplaceAll(pattern, `[^\s]`, `[^ \t\r\n]`)
	return regexp.MustCompile("^(?:" + strings.ReplaceAll(pattern, `\s`, `[ \t\r\n]`) + ")$")
}

// characters is a text of a character for each byte.
func characters(text string) string {
	var l []rune
	for i := range len(text) {
		l = append(l, rune(text[i]))
	}
	return string(l)
}

// 15.7, 15.8: by the library's patterns: what is accepted is what the pattern says, and the guide is the least.
func TestCompileByTheWords(t *testing.T) {
	s := spread(11)
	all := allOver(5, "abc")
	met := map[api.Errno]int{}
	for range 2000 {
		pattern := s.pattern(s.below(3))
		if len(pattern) > api.MaxPattern {
			continue
		}
		g, at, e := guide.Compile(pattern)
		met[e]++
		if at != 0 || e != api.OK {
			if e == api.ErrDead || e == api.ErrPattern {
				t.Errorf("Compile(%q): %d, %d", pattern, at, e)
			}
			continue
		}
		isGuide(t, pattern, plainLeast(g))(g, e)
		plain := plainPattern(pattern)
		l := append([]string{s.text(9, "a", "b"), s.text(7, "a", "b", "c", "\n"), s.text(3, "a", "\n", " ", "_", "5", "\x80", "\f")}, all...)
		for range 20 {
			l = append(l, s.text(s.below(12), "a", "b", "c", "\n", "\xff", "a"))
		}
		for _, text := range l {
			if want := plain.MatchString(characters(text)); plainAccepts(g, text) != want {
				t.Fatalf("Compile(%q): %q: %v", pattern, text, !want)
			}
		}
	}
	if met[api.OK] < 1500 {
		t.Error(met)
	}
}

// 15.8, R6: atoms, written out.
func TestWrittenAtTheLimit(t *testing.T) {
	stays := of("1", edge(0, 'a', 'a', 0))
	compiles(t, "((a*){32}){16}", stays)
	compiles(t, "((a*){32,}){16,}", stays)
	compiles(t, "((a*){0,32}){0,16}", stays)
	refuses(t, "((a*){32}){16}a", 0, api.ErrRepeat)
	refuses(t, "((a*){32,}){16,}a*", 0, api.ErrRepeat)
	refuses(t, "((a*){0,32}){0,16}|a*", 0, api.ErrRepeat)
	refuses(t, "((a*){27}){19}", 0, api.ErrRepeat)
	refuses(t, "(a{32}){16}", 0, api.ErrStates)
	refuses(t, "(a{32}){17}", 0, api.ErrRepeat)
	refuses(t, "(a{32}){32}", 0, api.ErrRepeat)
	refuses(t, "((((((((((((((a{32}){32}){32}){32}){32}){32}){32}){32}){32}){32}){32}){32}){32}){32}){32}", 0, api.ErrRepeat)
	refuses(t, `([^\x00-\xff]{32}){16}`, 0, api.ErrDead)
	refuses(t, `([^\x00-\xff]{32}){17}`, 0, api.ErrRepeat)
}

// 15.8: what comes no time is nothing, however often it comes within; and nothing is nothing, however often it comes.
func TestWrittenOfNothing(t *testing.T) {
	compiles(t, "((((((a{32}){32}){32}){32}){32}){32}){0}", of("1"))
	compiles(t, "((((((a{32}){32}){32}){32}){32}){32}){0,0}b", of("01", edge(0, 'b', 'b', 1)))
	compiles(t, "((((((((((((((){32}){32}){32}){32}){32}){32}){32}){32}){32}){32}){32}){32}){32}){32}", of("1"))
	compiles(t, "(((((((((((a{0}|){32}){32}){32}){32}){32}){32}){32}){32}){32}){32}){32,}b?", of("11", edge(0, 'b', 'b', 1)))
}

// 15.8, R6: sets that come up, where the least guide has a single state. The second alternative tells which of the last bytes were a.
func TestSetsAtTheLimit(t *testing.T) {
	ab := of("1", edge(0, 'a', 'b', 0))
	compiles(t, "[ab]*|[ab]*a[ab]{9}", ab)
	refuses(t, "[ab]*|[ab]*a[ab]{10}", 0, api.ErrStates)
	refuses(t, "[ab]*|[ab]*a[ab]{9}|c", 0, api.ErrStates)
	compiles(t, "[ab]*|[ab]*a[ab]{8}|c", of("111", edge(0, 'a', 'b', 1), edge(0, 'c', 'c', 2), edge(1, 'a', 'b', 1)))
	// Sets count from which nothing can be said any more.
	refuses(t, `[ab]*|[ab]*a[ab]{9}|c[^\x00-\xff]`, 0, api.ErrStates)
	refuses(t, `[ab]*a[ab]{10}[^\x00-\xff]`, 0, api.ErrStates)
	refuses(t, `[ab]*a[ab]{9}[^\x00-\xff]`, 0, api.ErrDead)
	refuses(t, "[ab]*a[ab]{9}", 0, api.ErrStates)
}

// 15.8, R6: states of the least guide.
func TestStatesOfPatterns(t *testing.T) {
	compiles(t, "a{0,31}a{32}", func() api.Guide { g := upTo(63, 'a', 'a'); clear(g.Accept[:32]); return g }())
	compiles(t, "(a{21}){0,3}", func() api.Guide {
		g := upTo(63, 'a', 'a')
		for state := range g.Accept {
			g.Accept[state] = state%21 == 0
		}
		return g
	}())
	refuses(t, "a{32}a{32}", 0, api.ErrStates)
	refuses(t, "a{0,32}a{32}", 0, api.ErrStates)
	compiles(t, "(a{32}a{32})*", circle(64))
	refuses(t, "(a{32}a{32}a)*", 0, api.ErrStates)
}

// 15.8, R6: edges of the least guide.
func TestEdgesOfPatterns(t *testing.T) {
	stripes := "["
	for b := byte('0'); b < '0'+64; b += 2 {
		if b == '^' || b == '\\' {
			stripes += `\`
		}
		stripes += string(rune(b))
	}
	stripes += "]"
	g := compiled(t, stripes+"{32}")
	if len(g.Edges) != 1024 || len(g.Accept) != 33 {
		t.Error(len(g.Edges), len(g.Accept))
	}
	refuses(t, stripes+"{32}!", 0, api.ErrEdge)
	refuses(t, stripes+"{32}|!", 0, api.ErrEdge)
	refuses(t, "!?"+stripes+"{32}", 0, api.ErrEdge)
	refuses(t, stripes+"{32}"+stripes+"{32}", 0, api.ErrStates)
}
