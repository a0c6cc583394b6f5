package stream_test

import (
	"strings"
	"testing"
	"unicode/utf8"

	"herald/stream"
)

// cleans asks for the clean form by the chapter's words.
func cleans(t *testing.T, s string) {
	t.Helper()
	if got, want := stream.Clean(s), cleanOf(s); got != want {
		t.Fatalf("Clean(%q): %q and not %q", s, got, want)
	}
}

// 14.1
func TestClean(t *testing.T) {
	for s, want := range map[string]string{
		"":                  "",
		"abc":               "abc",
		"\x00\x1f\x7f":      "\x00\x1f\x7f",
		"é€😀":               "é€😀",
		"\xff":              sign,
		"a\x80b":            "a" + sign + "b",
		"\xe2":              sign,
		"\xe2\x82":          sign + sign,
		"\xe2\x82A":         sign + sign + "A",
		"\xe2\xe2\x82\xac":  sign + "€",
		"\xc0\x80":          sign + sign,               // a byte too many for 0
		"\xe0\x9f\xbf":      sign + sign + sign,        // one too many for 2047
		"\xed\xa0\x80":      sign + sign + sign,        // half of a pair
		"\xf0\x8f\xbf\xbf":  sign + sign + sign + sign, // one too many for 65535
		"\xf4\x90\x80\x80":  sign + sign + sign + sign, // beyond the last character
		"\xf0\x9f\x98":      sign + sign + sign,
		"\xf0\x9f\x98\x80":  "😀",
		sign:                sign,
		sign + "\xef\xbf":   sign + sign + sign,
		"\xf8\x88\x80\x80a": sign + sign + sign + sign + "a",
	} {
		lets(t, "Clean", stream.Clean(s), want)
		cleans(t, s)
	}
}

// 14.1: each character is its own clean form, also with another one around it.
func TestCleanOfEachCharacter(t *testing.T) {
	for c := rune(0); c <= utf8.MaxRune; c++ {
		if c >= 0xd800 && c <= 0xdfff {
			continue
		}
		if s := string(c); stream.Clean(s) != s || stream.Clean("a"+s+"€") != "a"+s+"€" {
			t.Fatalf("Clean(%q): %q", s, stream.Clean(s))
		}
	}
}

// 14.1: all texts of two bytes, and all of four bytes at which the words draw a line.
func TestCleanByTheWords(t *testing.T) {
	for n := range 1 << 16 {
		cleans(t, string([]byte{byte(n >> 8), byte(n)}))
	}
	const edges = "\x00A\x7f\x80\x8f\x90\x9f\xa0\xbf\xc0\xc1\xc2\xdf\xe0\xe1\xec\xed\xee\xef\xf0\xf1\xf3\xf4\xf5\xff"
	for n := range len(edges) * len(edges) * len(edges) * len(edges) {
		var l [4]byte
		for i := range l {
			l[i] = edges[n%len(edges)]
			n /= len(edges)
		}
		cleans(t, string(l[:]))
	}
}

// 14.1: a long text.
func TestCleanOfMuch(t *testing.T) {
	s := strings.Repeat("a\xe2\x82\xac\xff\xe2", 200000)
	lets(t, "Clean of much", stream.Clean(s), strings.Repeat("a€"+sign+sign, 200000))
}
