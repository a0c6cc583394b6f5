package stream_test

import (
	"slices"
	"strings"
	"testing"

	"herald/api"
	"herald/stream"
)

// bytesOf is a text cut into its bytes.
func bytesOf(s string) []string {
	var l []string
	for i := range len(s) {
		l = append(l, s[i:i+1])
	}
	return l
}

// 14.3, 14.4: half characters wait for what makes them whole, and no longer.
func TestFeedHoldsHalfCharacters(t *testing.T) {
	for _, pieces := range [][]string{
		texts("é"), texts("\xc3", "\xa9"), texts("\xc3", "", "\xa9"),
		texts("\xe2", "\x82", "\xac"), texts("\xf0", "\x9f", "\x98", "\x80"), texts("a\xf0\x9f", "\x98\x80b"),
		texts("\xe2", "a"), texts("\xe2\x82", "\xe2\x82", "\xac"), texts("\xf0\x9f", "\xf0", "\x9f", "a"),
		texts("\xe0", "\x9f"), texts("\xe0", "\xa0", "\x80"), texts("\xed", "\xa0"), texts("\xf0", "\x8f"), texts("\xf4", "\x90"),
		texts("\x80", "\xbf"), texts("\xc0", "\xc1"), texts("\xf5", "\xff"),
		texts("\xe2\x82"), texts("\xf0\x9f\x98"), texts("\xf0\x9f", "\x98"), texts("", ""), texts(),
	} {
		feeds(t, nil, pieces)
		feeds(t, texts("stop"), pieces)
	}
	s := begun(t)
	lets(t, "Feed", s.Feed("ab\xf0\x9f\x98"), "ab")
	stands(t, s, "\xf0\x9f\x98", "ab", -1)
	lets(t, "Feed", s.Feed("c"), sign+sign+sign+"c")
	stands(t, s, "", "ab"+sign+sign+sign+"c", -1)
}

// 14.3, 14.4: what may become a stop text waits, too.
func TestFeedHoldsBeginningsOfStops(t *testing.T) {
	s := begun(t, "a€b", "cd")
	for _, c := range []struct{ piece, out, held string }{
		{"xa", "x", "a"}, {"\xe2", "", "a\xe2"}, {"\x82", "", "a\xe2\x82"}, {"\xac", "", "a€"},
		{"a", "a€", "a"}, {"a", "a", "a"}, {"c", "a", "c"}, {"", "", "c"}, {"c", "c", "c"}, {"x", "cx", ""},
		{"a\xe2", "", "a\xe2"}, {"c", "a" + sign, "c"}, {"\xe2", "c", "\xe2"}, {"a", sign, "a"}, {"\xff", "a" + sign, ""},
	} {
		lets(t, "Feed", s.Feed(c.piece), c.out)
		lets(t, "Held", s.Held(), c.held)
	}
	lets(t, "Feed", s.Feed("xa€"), "x")
	lets(t, "End", s.End(), "a€")
	stands(t, s, "", "xa€aaccxa"+sign+"c"+sign+"a"+sign+"xa€", -1)
}

// 14.3, 14.4: a stop text ends the text ahead of it, whatever comes behind it.
func TestFeedStops(t *testing.T) {
	for _, c := range []struct {
		stops []string
		text  string
		out   string
		met   int
	}{
		{texts("b"), "abc", "a", 0},
		{texts("b"), "b", "", 0},
		{texts("x", "b"), "abxb", "a", 1},
		{texts("abcd", "bc"), "abcd", "a", 1},            // whole ahead of the longer one
		{texts("bc", "abc"), "abc", "", 1},               // made whole by one byte: the longest one
		{texts("abc", "bc"), "abc", "", 0},               // the same the other way round
		{texts("c", "bc", "abc", "xabc"), "abc", "", 2},  // the longest of three
		{texts("b", "b"), "ab", "a", 0},                  // of two alike the first one
		{texts("a", "ab", "ab", "b"), "xab", "x", 0},     // a is whole first
		{texts("b", "xab", "ab", "xab"), "xxab", "x", 1}, // the first of two alike
		{texts("aab"), "aaab", "a", 0},                   // begun anew within itself
		{texts("abab", "abc"), "ababc", "", 0},
		{texts("ababc"), "abababc", "ab", 0},
		{texts("€"), "a\xe2€", "a" + sign, 0},               // ahead of it stands half a character
		{texts("\n"), "a\xe2\x82\nb", "a" + sign + sign, 0}, // the same
		{texts("A"), "\xe2A", sign, 0},
		{texts(sign), "\xff" + sign + "a", sign, 0}, // the sign itself is met, no byte for which it stands
		{texts(sign), "\xff\xff", sign + sign, -1},
		{texts("\x00"), "a\x00b", "a", 0},
		{texts("ab"), "a", "a", -1},
		{texts("ab"), "", "", -1},
		{nil, "abc", "abc", -1},
	} {
		if s, at, e := stream.Whole(c.stops, c.text); s != c.out || at != c.met || e != api.OK {
			t.Errorf("Whole(%q, %q): %q, %d, %d and not %q, %d", c.stops, c.text, s, at, e, c.out, c.met)
		}
		feeds(t, c.stops, texts(c.text))
		feeds(t, c.stops, bytesOf(c.text))
		for i := range len(c.text) {
			feeds(t, c.stops, texts(c.text[:i], c.text[i:], "behind"))
		}
	}
}

// 14.3, 14.4, R6: stop texts of 64 bytes, and 16 of them.
func TestFeedAtTheLimits(t *testing.T) {
	long := strings.Repeat("a", 63) + "b"
	feeds(t, texts(long), bytesOf(strings.Repeat("a", 200)+"b"))
	feeds(t, texts(long), bytesOf(strings.Repeat("a", 62)+"b"+strings.Repeat("a", 63)+"\xe2\x82"))
	s := begun(t, long)
	lets(t, "Feed", s.Feed(strings.Repeat("a", 100)), strings.Repeat("a", 37))
	lets(t, "Held", s.Held(), strings.Repeat("a", 63))
	var stops []string
	for n := range 16 {
		stops = append(stops, strings.Repeat("ab", 31)+string(rune('A'+n))+"!")
	}
	for n := range 16 {
		text := strings.Repeat("ab", 40) + string(rune('A'+n)) + "!"
		feeds(t, stops, bytesOf(text+"more"))
		feeds(t, stops, texts(text, "more"))
		feeds(t, stops, texts(text[:70], text[70:]+"more"))
	}
	wide := strings.Repeat("😀", 16)
	feeds(t, texts(wide), bytesOf(strings.Repeat("😀", 15)+"\xf0\x9f\x98"+wide))
	feeds(t, texts(wide), bytesOf("a"+wide+wide))
}

// 14.3, 14.4: behind a stop text, and behind End, nothing comes out and nothing is held back.
func TestFeedBehindTheEnd(t *testing.T) {
	s := begun(t, "b", "xy")
	lets(t, "Feed", s.Feed("abx"), "a")
	for _, piece := range texts("x", "y", "\xe2", "b", "") {
		lets(t, "Feed", s.Feed(piece), "")
		stands(t, s, "", "a", 0)
	}
	lets(t, "End", s.End(), "")
	stands(t, s, "", "a", 0)

	s = begun(t, "b", "xy")
	lets(t, "Feed", s.Feed("ax"), "a")
	lets(t, "End", s.End(), "x")
	stands(t, s, "", "ax", -1)
	for _, piece := range texts("y", "b", "\xe2", "more") {
		lets(t, "Feed", s.Feed(piece), "")
		lets(t, "End", s.End(), "")
		stands(t, s, "", "ax", -1)
	}
	s = begun(t)
	lets(t, "End", s.End(), "")
	lets(t, "Feed", s.Feed("a"), "")
	stands(t, s, "", "", -1)
}

// 14.3 to 14.5: all texts of two letters, by stop texts that lie within one another, in all ways to cut them.
func TestFeedOfAllCuts(t *testing.T) {
	for _, stops := range [][]string{nil, texts("aab"), texts("bb", "abb"), texts("abab", "ba", "bab"), texts("aaaa", "bab", "abaa"), texts("baa", "aa")} {
		for n := range 1 << 6 {
			text := ""
			for i := range 6 {
				text += "ab"[n>>i&1 : n>>i&1+1]
			}
			for cuts := range 1 << 5 {
				pieces := texts(text[:1])
				for i := 1; i < len(text); i++ {
					if cuts>>(i-1)&1 == 1 {
						pieces = append(pieces, "")
					}
					pieces[len(pieces)-1] += text[i : i+1]
				}
				feeds(t, stops, pieces)
			}
		}
	}
}

// 14.3 to 14.5: by the words, stop texts, characters, halves of them and bytes that are none, cut anyhow.
func TestFeedByTheWords(t *testing.T) {
	s := spread(2)
	stopped := 0
	for range 20000 {
		var stops []string
		for range s.below(5) {
			stops = append(stops, s.text(1+s.below(4), "a", "b", "é", "€"))
		}
		text := s.text(s.below(30), "a", "b", "é", "€", "é", "€", "\xe2", "\xe2\x82", "\xc3", "\x82", "\xff", "\xf0\x9f")
		feeds(t, stops, s.cut(text, 1+s.below(6)))
		whole, met := textOf(stops, text)
		if met >= 0 {
			stopped++
		}
		if got, at, e := stream.Whole(stops, text); got != cleanOf(whole) || at != met || e != api.OK {
			t.Fatalf("Whole(%q, %q): %q, %d, %d", stops, text, got, at, e)
		}
	}
	if stopped < 3000 || stopped > 17000 {
		t.Error(stopped)
	}
}

// 14.3: much text in little pieces, with stop texts that nearly stand everywhere.
func TestFeedOfMuch(t *testing.T) {
	var stops []string
	for n := range 16 {
		stops = append(stops, strings.Repeat("a", 62-n)+"bc")
	}
	s := begun(t, stops...)
	piece := strings.Repeat("a", 60) + "b\xe2"
	var out strings.Builder
	for range 10000 {
		for i := range len(piece) {
			out.WriteString(s.Feed(piece[i : i+1]))
		}
	}
	out.WriteString(s.Feed("c"))
	out.WriteString(s.End())
	want := strings.Repeat(strings.Repeat("a", 60)+"b"+sign, 10000) + "c"
	if out.String() != want || s.Text() != want {
		t.Error("not what was fed")
	}
	whole, at, e := stream.Whole(stops, strings.Repeat(piece, 100000)+"bc"+strings.Repeat("a", 60)+"bc")
	if whole != strings.Repeat(strings.Repeat("a", 60)+"b"+sign, 100000)+"bc" || at != 2 || e != api.OK {
		t.Error("Whole", len(whole), at, e)
	}
}

// marks asks for these marks.
func marks(t *testing.T, pieces []string, want ...int) {
	t.Helper()
	if got := stream.Marks(pieces); !slices.Equal(got, want) {
		t.Errorf("Marks(%q): %v and not %v", pieces, got, want)
	}
}

// 14.8, R3
func TestMarks(t *testing.T) {
	marks(t, nil, 0)
	marks(t, texts(), 0)
	marks(t, texts(""), 0, 0)
	marks(t, texts("a", "", "bc"), 1, 1, 3, 3)
	marks(t, texts("\xff"), 3, 3)
	marks(t, texts("\xf0", "\x9f", "\x98", "\x80", "a"), 0, 0, 0, 4, 5, 5)
	marks(t, texts("\xf0", "\x9f", "\x98", "a"), 0, 0, 0, 10, 10)
	marks(t, texts("a\xf0\x9f\x98"), 1, 10)
	marks(t, texts("a\xe2\x82", "\xe2\x82"), 1, 7, 13)
}

// 14.8: by the words.
func TestMarksByTheWords(t *testing.T) {
	s := spread(3)
	for range 3000 {
		text := s.text(s.below(20), "a", "é", "€", "😀", "\xe2", "\x82", "\xff", "\xf0\x9f")
		pieces := s.cut(text, 3)
		fed, want := "", []int(nil)
		for _, piece := range pieces {
			fed += piece
			want = append(want, len(cleanOf(strings.TrimSuffix(fed, heldOf(nil, fed)))))
		}
		marks(t, pieces, append(want, len(cleanOf(fed)))...)
	}
}
