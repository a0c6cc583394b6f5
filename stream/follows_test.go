package stream_test

import (
	"slices"
	"strings"
	"testing"

	"herald/api"
	"herald/stream"
)

// 14.7: how a text is cut has no part in what comes out; that is its own clean form, each answer by itself; less than 64 bytes are held back.
func TestCutsHaveNoPart(t *testing.T) {
	s := spread(6)
	for range 3000 {
		var stops []string
		for range s.below(4) {
			stops = append(stops, s.text(1+s.below(16), "a", "b", "é", "€"))
		}
		text := s.text(s.below(60), "a", "b", "é", "€", "a", "b", "\xe2\x82", "\xff")
		whole, met, _ := stream.Whole(stops, text)
		for range 3 {
			one, out := begun(t, stops...), ""
			for _, piece := range s.cut(text, 1+s.below(9)) {
				part := one.Feed(piece)
				lets(t, "Clean of an answer", stream.Clean(part), part)
				out += part
				if len(one.Held()) >= 64 {
					t.Errorf("Held: %q", one.Held())
				}
			}
			part := one.End()
			lets(t, "Clean of an answer", stream.Clean(part), part)
			lets(t, "all that came out", out+part, whole)
			stands(t, one, "", whole, met)
		}
	}
}

// 14.7: no stop text comes out of a text that is its own clean form.
func TestNoStopComesOut(t *testing.T) {
	s := spread(7)
	for range 5000 {
		stops := texts(s.text(1+s.below(3), "a", "b", "é"), s.text(1+s.below(4), "a", "b", "€"))
		out, met, _ := stream.Whole(stops, s.text(s.below(40), "a", "b", "é", "€"))
		for _, stop := range stops {
			if strings.Contains(out, stop) {
				t.Errorf("%q has %q in it (%d was met)", out, stop, met)
			}
		}
	}
}

// 14.7
func TestCleanOfClean(t *testing.T) {
	s := spread(8)
	for range 5000 {
		once := stream.Clean(s.text(s.below(20), "a", "\xc3", "\xe2", "\x82", "\xac", "\xf0", "\x9f", "\xed", "\xff", sign))
		lets(t, "Clean of Clean", stream.Clean(once), once)
	}
}

// 14.11
func TestUnquoteOfQuote(t *testing.T) {
	s := spread(9)
	for range 5000 {
		text := s.text(s.below(20), "a", "\"", `\`, "\n", "\x01", "\x1f", "\x7f", "é", "€", "😀", "\xe2", "\x82", "\xff", "u0041", "n")
		unquotes(t, stream.Quote(text), stream.Clean(text))
	}
}

// 14.11
func TestEventsOfEvent(t *testing.T) {
	s := spread(10)
	for range 3000 {
		var all string
		var want []api.Event
		for range 1 + s.below(4) {
			e := event(s.text(s.below(4), "a", " ", "é", ":", "data:"), s.text(s.below(6), "a", " ", "\n", "€", ":", "event:"))
			lines, err := stream.Event(e.Name, e.Data)
			if err != api.OK {
				t.Fatalf("Event(%q): %d", e, err)
			}
			all += lines
			want = append(want, e)
		}
		hears(t, all, len(all), want...)
		hears(t, all+"data: more", len(all), want...)
	}
}

// 14.11: marks rise.
func TestMarksRise(t *testing.T) {
	s := spread(11)
	for range 3000 {
		pieces := s.cut(s.text(s.below(30), "a", "é", "€", "\xe2", "\x82", "\xff"), 4)
		l := stream.Marks(pieces)
		if len(l) != len(pieces)+1 || !slices.IsSorted(l) || l[0] < 0 || l[len(l)-1] != len(stream.Clean(strings.Join(pieces, ""))) {
			t.Errorf("Marks(%q): %v", pieces, l)
		}
	}
}
