package guide_test

import (
	"strings"
	"testing"

	"herald/api"
	"herald/guide"
)

// 15.7, 15.8: the first byte that goes on with no pattern.
func TestFaults(t *testing.T) {
	for pattern, place := range map[string]int{
		// Bytes that don't stand for themselves, and signs with nothing ahead.
		"*": 0, "+": 0, "?": 0, "{": 0, "}": 0, "]": 0, ")": 0, "^": 0, "$": 0, "\x1f": 0, "\x7f": 0, "\x80": 0, "\xff": 0, "\n": 0, "\x00": 0,
		"a}": 1, "a]": 1, "a)": 1, "a^": 1, "a$": 1, "é": 0, "a|*": 2, "(*": 1, "(|+)": 2, "a\tb": 1,
		// One sign of repetition an atom.
		"a**": 2, "a+?": 2, "a??": 2, "a{2}*": 4, "a{2}{3}": 4, "a*{2}": 2,
		// Brackets.
		"(": 1, "a(": 2, "(a": 2, "(a|": 3, "((a)": 4, "(a))": 3, "a(b)c)": 5, "())": 2, "(a(b)": 5, "(]": 1,
		// Behind a backslash.
		`\`: 1, `a\`: 2, `\a`: 1, `\0`: 1, `\-`: 1, `\/`: 1, `\N`: 1, `\D`: 1, `\W`: 1, `\S`: 1, `\X41`: 1, "\\\n": 1, `\ `: 1, `\"`: 1,
		`\x`: 2, `\x4`: 3, `\xg`: 2, `\x4g`: 3, `\xA0`: 2, `\x0A`: 3, `\x4*`: 3, `(\x)`: 3, "\\é": 1,
		// Classes.
		"[": 1, "[]": 1, "[^": 2, "[^]": 2, "[^^]": 2, "[a^]": 2, "[[": 1, "[a[": 2, "[a": 2, "[a]]": 3, "[-a]": 1, "[a-]": 3, "[a-": 3, "[a--z]": 3,
		"[a-b-c]": 4, "[a-z-]": 4, `[\d-z]`: 3, `[\w-]`: 3, `[a-\d]`: 4, `[a-\w]`: 4, `[\x00-\s]`: 7, `[a-\`: 4, `[a-\q]`: 4, `[a-^]`: 3, `[a-[]`: 3,
		"[\n]": 1, "[\x80]": 1, "[a\x7f]": 2, `[\`: 2, `[\q]`: 2, `[\x4]`: 4, `[\x`: 3, "[^-]": 2, "[a-\x80]": 3, "[^a": 3, "[^a-": 4, `[\--\`: 5,
		// Pairs that are not in order.
		"[b-a]": 3, "[ab-a]": 4, "[a-zz-y]": 6, `[\x61-\x60]`: 6, `[b-\x61]`: 3, `[a-\^]`: 3, "[^b-a]": 4, "[b-a": 3, "[b-a^]": 3, `[\n-\t]`: 4, "(([9-0]": 5, "[b-a]{99}": 3,
		// Repetitions.
		"a{": 2, "a{}": 2, "a{,}": 2, "a{,3}": 2, "a{x": 2, "a{ 1}": 2, "a{-1}": 2, "a{1": 3, "a{12": 4, "a{1x}": 3, "a{1,": 4, "a{1,x}": 4, "a{1,2": 5, "a{1,2,": 5,
		"a{1,,}": 4, "a{1,2x}": 5, "a{00}": 3, "a{01}": 3, "a{0,00}": 5, "a{0,01}": 5, "a{1 }": 3, "a{+1}": 2, "a{33": 4, "a{33,": 5, "a{33x}": 4, "a{3,2": 5, "a{3,2x": 5, "a{2}}": 4, "{2}": 0, "|{2}": 1,
		// The first one of several.
		"a)(": 1, "*)": 0, "(b-a": 4, "[a-]*]": 3,
	} {
		refuses(t, pattern, place, api.ErrPattern)
	}
}

// 15.8: numbers of repetitions that may not be.
func TestFaultsOfRepetitions(t *testing.T) {
	for pattern, place := range map[string]int{
		"a{33}": 1, "a{33,}": 1, "a{33,40}": 1, "a{0,33}": 1, "a{3,2}": 1, "a{1,0}": 1, "a{32,31}": 1, "a{40,2}": 1, "a{99999999999999999999999999}": 1, "a{0,99999999999999999999999999}": 1,
		"ab{33}": 2, "(a{33})": 2, "(a{33}": 2, "[a]{33}": 3, `\x41{33}`: 4, "a{2}b{33}": 5, "(a)(b{33}){34}": 5, "a{33}*": 1, "a{33})": 1, "a{33}[b-a]": 1, "a{33}b{34": 1, "(){33}": 2, "a{18446744073709551617}": 1,
	} {
		refuses(t, pattern, place, api.ErrRepeat)
	}
	for _, pattern := range texts("a{0}", "a{32}", "a{0,}", "a{32,}", "a{0,0}", "a{0,32}", "a{32,32}", "a{9}", "a{10}", "a{30,31}") {
		compiled(t, pattern)
	}
}

// 15.7, R6: of a pattern that is too long what is so of its first bytes.
func TestFaultsOfLongPatterns(t *testing.T) {
	alike := strings.Repeat("a*", 128)
	compiles(t, alike, of("1", edge(0, 'a', 'a', 0)))
	refuses(t, alike+"a", 256, api.ErrPattern)
	refuses(t, alike+")", 256, api.ErrPattern)
	refuses(t, strings.Repeat(alike, 4000), 256, api.ErrPattern)
	refuses(t, alike[:255]+")", 255, api.ErrPattern)
	refuses(t, alike[:255]+")a", 255, api.ErrPattern)
	refuses(t, alike[:254]+"((", 256, api.ErrPattern)
	refuses(t, alike[:254]+"((a))", 256, api.ErrPattern)
	refuses(t, ")"+alike, 0, api.ErrPattern)
	refuses(t, "[b-a]"+alike, 3, api.ErrPattern)
	refuses(t, "a{33}"+alike, 1, api.ErrRepeat)
	refuses(t, "(a{32}){32}"+alike, 256, api.ErrPattern)
	refuses(t, `[^\x00-\xff]`+alike, 256, api.ErrPattern)
	refuses(t, alike[:252]+"a{33}", 256, api.ErrPattern)
	refuses(t, alike[:251]+"{33}a", 251, api.ErrRepeat)
	refuses(t, alike[:250]+"ab{33}a", 252, api.ErrRepeat)
	compiles(t, strings.Repeat("(", 127)+"a?"+strings.Repeat(")", 127), of("11", edge(0, 'a', 'a', 1)))
	refuses(t, strings.Repeat("(", 256), 256, api.ErrPattern)
	refuses(t, strings.Repeat("(", 100000), 256, api.ErrPattern)
}

// grammar tells of pieces of a text whether they are what the chapter's words say, each way to cut them tried; numbers and pairs may be any.
type grammar struct {
	text string
	met  map[span]bool
}

// span is a piece of a text, and what it is asked to be.
type span struct {
	what     string
	from, to int
}

func (g *grammar) is(what string, from, to int) bool {
	s := span{what, from, to}
	if _, known := g.met[s]; !known {
		g.met[s] = g.ask(what, from, to)
	}
	return g.met[s]
}

// cut tells whether a piece can be cut in two, of which the first one is this and the second one that.
func (g *grammar) cut(first, second string, from, to int) bool {
	for at := from; at <= to; at++ {
		if g.is(first, from, at) && g.is(second, at, to) {
			return true
		}
	}
	return false
}

func (g *grammar) ask(what string, from, to int) bool {
	s := g.text[from:to]
	switch what {
	case "alternatives":
		return g.is("row", from, to) || g.cut("row", "more", from, to)
	case "more":
		return strings.HasPrefix(s, "|") && g.is("alternatives", from+1, to)
	case "row":
		return s == "" || g.rowOf("piece", from, to)
	case "piece":
		return g.is("atom", from, to) || g.cut("atom", "repetition", from, to)
	case "repetition":
		return s == "*" || s == "+" || s == "?" || isNumbers(s)
	case "atom":
		return isLetter(s, `\|()[]{}.*+?^$`, `\|()[]{}.*+?^$`) || s == "." || g.is("class", from, to) ||
			strings.HasPrefix(s, "(") && strings.HasSuffix(s, ")") && len(s) > 1 && g.is("alternatives", from+1, to-1)
	case "class":
		if !strings.HasPrefix(s, "[") || !strings.HasSuffix(s, "]") || len(s) < 3 {
			return false
		}
		return g.is("members", from+1, to-1) || s[1] == '^' && g.is("members", from+2, to-1)
	case "members":
		return s != "" && g.rowOf("member", from, to)
	case "member":
		return isLetter(s, `\][^-`, `\|()[]{}.*+?^$-`) || g.cut("single", "pair", from, to)
	case "pair":
		return strings.HasPrefix(s, "-") && g.is("single", from+1, to)
	case "single":
		return isLetter(s, `\][^-`, `\|()[]{}.*+?^$-`) && s != `\d` && s != `\w` && s != `\s`
	}
	panic(what)
}

// rowOf tells whether a piece is one or more of these, one behind the other.
func (g *grammar) rowOf(what string, from, to int) bool {
	if g.is(what, from, to) {
		return true
	}
	for at := from + 1; at < to; at++ {
		if g.is(what, from, at) && g.rowOf(what, at, to) {
			return true
		}
	}
	return false
}

// isLetter tells whether a text is a byte that stands for itself, all but own, or a backslash and a sign.
func isLetter(s, own, escaped string) bool {
	if len(s) == 1 {
		return s[0] >= 32 && s[0] <= 126 && !strings.Contains(own, s)
	}
	if len(s) == 2 {
		return s[0] == '\\' && strings.Contains("nrtdws"+escaped, s[1:])
	}
	const digits = "0123456789abcdef"
	return len(s) == 4 && strings.HasPrefix(s, `\x`) && strings.Contains(digits, s[2:3]) && strings.Contains(digits, s[3:])
}

// isNumbers tells whether a text is a sign of repetition with numbers.
func isNumbers(s string) bool {
	if len(s) < 3 || s[0] != '{' || s[len(s)-1] != '}' {
		return false
	}
	m, n, isTwo := strings.Cut(s[1:len(s)-1], ",")
	return isNumber(m) && (!isTwo || n == "" || isNumber(n))
}

func isNumber(s string) bool {
	return s != "" && strings.Trim(s, "0123456789") == "" && (s == "0" || s[0] != '0')
}

// isPattern tells whether a text is a pattern, whatever its numbers and pairs are.
func isPattern(s string) bool {
	g := &grammar{s, map[span]bool{}}
	return g.is("alternatives", 0, len(s))
}

// begins tells whether a text is the beginning of a pattern: whether something that ends what can be begun makes it one.
func begins(s string) bool {
	for _, tail := range texts("", "a", "a]", "]", "]a", "00", "0", "00]", "0]", "}", "0}", "n", "n]", `\]`) {
		for open := 0; open <= strings.Count(s, "("); open++ {
			if isPattern(s + tail + strings.Repeat(")", open)) {
				return true
			}
		}
	}
	return false
}

// placeOf is the place of the first byte by which a text is the beginning of no pattern, or its length, if it is no pattern; -1, if it is one.
func placeOf(s string) int {
	for n := range len(s) {
		if !begins(s[:n+1]) {
			return n
		}
	}
	if !isPattern(s) {
		return len(s)
	}
	return -1
}

// 15.7, 15.8: by the words, with small numbers, and pairs that are in order.
func TestFaultsByTheWords(t *testing.T) {
	s := spread(10)
	met := map[bool]int{}
	for round := range 6000 {
		signs := [][]string{
			{"a", "(", ")", "|", "*", "{", "}", "1", ",", "[", "]"},
			{"[", "]", "^", "-", `\`, "n", "d", "x", "a", "z"},
			{"(", ")", "a", "|", "a?", ".", "b+", "()"},
			{`\`, "x", "0", "f", "w", "-", "[", "]", "[^", "]", "g"},
			{"a{", "}", "0", "1", "2", ",", "{", "3"},
		}[round%5]
		pattern := s.text(1+s.below(8), signs...)
		want := placeOf(pattern)
		met[want < 0]++
		_, at, e := guide.Compile(pattern)
		switch {
		case want < 0 && e == api.ErrPattern && !isPair(pattern, at):
			t.Errorf("Compile(%q): %d, %d", pattern, at, e)
		case want >= 0 && (e != api.ErrPattern || at != want) && !(at < want && (e == api.ErrRepeat && pattern[at] == '{' || isPair(pattern, at))):
			t.Errorf("Compile(%q): %d, %d and not %d", pattern, at, e, want)
		}
	}
	if met[true] < 500 || met[false] < 500 {
		t.Error(met)
	}
}

// isPair tells whether a pair's second byte may stand at a place.
func isPair(pattern string, at int) bool {
	return at > 1 && at < len(pattern) && pattern[at-1] == '-'
}
