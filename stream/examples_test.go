package stream_test

import (
	"slices"
	"testing"

	"herald/api"
	"herald/stream"
)

// The chapter's first example.
func TestExampleOfHalfCharacters(t *testing.T) {
	s := begun(t)
	lets(t, "Feed", s.Feed("a\xe2\x82"), "a")
	stands(t, s, "\xe2\x82", "a", -1)
	lets(t, "Feed", s.Feed("\xac!"), "\xe2\x82\xac!")
	lets(t, "Feed", s.Feed("\xff\xe2"), "\xef\xbf\xbd")
	lets(t, "End", s.End(), "\xef\xbf\xbd")
	stands(t, s, "", "a\xe2\x82\xac!\xef\xbf\xbd\xef\xbf\xbd", -1)
}

// The second one.
func TestExampleOfStops(t *testing.T) {
	s := begun(t, "STOP", "\n")
	lets(t, "Feed", s.Feed("one ST"), "one ")
	stands(t, s, "ST", "one ", -1)
	lets(t, "Feed", s.Feed("AR"), "STAR")
	lets(t, "Feed", s.Feed("STO"), "")
	lets(t, "Feed", s.Feed("P two"), "")
	stands(t, s, "", "one STAR", 0)
	s = begun(t, "ab", "xab")
	lets(t, "Feed", s.Feed("xab"), "")
	stands(t, s, "", "", 1)
	s = begun(t, "ab", "b")
	lets(t, "Feed", s.Feed("ab"), "")
	stands(t, s, "", "", 0)
}

// The third one.
func TestExampleOfWrongStops(t *testing.T) {
	refuses(t, texts(""), api.ErrStop)
	refuses(t, texts("\xff"), api.ErrStop)
	lets(t, "Clean", stream.Clean("\xe2\x82A"), "\xef\xbf\xbd\xef\xbf\xbdA")
	if s, at, e := stream.Whole(texts("b"), "abc"); s != "a" || at != 0 || e != api.OK {
		t.Error("Whole", s, at, e)
	}
}

// The fourth one.
func TestExampleOfMarksAndQuotes(t *testing.T) {
	marks(t, texts("a\xe2", "\x82\xac"), 1, 4, 4)
	marks(t, texts("\xe2"), 0, 3)
	lets(t, "Quote", stream.Quote("a\n\x01\""), `"a\n\u0001\""`)
	unquotes(t, `"\ud83d\ude00"`, "\xf0\x9f\x98\x80")
	unquotesNot(t, `"\ud83d"`, 7)
	unquotesNot(t, `"a`, 2)
	unquotesNot(t, `"a"b`, 3)
}

// The fifth one.
func TestExampleOfEvents(t *testing.T) {
	if s, e := stream.Event("", "a\nb"); s != "data: a\ndata: b\n\n" || e != api.OK {
		t.Errorf("Event: %q, %d", s, e)
	}
	l, n := stream.Events("event:x\ndata: 1\n\ndata:2\n")
	if !slices.Equal(l, []api.Event{{Name: "x", Data: "1"}}) || n != 17 {
		t.Errorf("Events: %q, %d", l, n)
	}
}
