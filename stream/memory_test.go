package stream_test

import (
	"slices"
	"strings"
	"testing"

	"herald/stream"
)

// spare is a list of texts with room behind its end, which is filled too.
func spare(l ...string) []string {
	room := append(make([]string, 0, 2*len(l)+4), l...)
	for i := len(l); i < cap(room); i++ {
		room[:cap(room)][i] = "q"
	}
	return room
}

// entire is a list with what lies behind its end.
func entire[T any](l []T) []T { return l[:cap(l)] }

// R4: a list of stop texts is not kept and not changed, nor is what lies behind its end.
func TestStopsAreTheCallersOwn(t *testing.T) {
	stops := spare("ab", "cd")
	was := slices.Clone(entire(stops))
	s := begun(t, stops...)
	same := func() {
		t.Helper()
		if !slices.Equal(entire(stops), was) {
			t.Errorf("%q", entire(stops))
		}
	}
	same()
	s.Feed("xa")
	stream.Whole(stops, "xab")
	same()
	for i := range entire(stops) {
		entire(stops)[i] = "z"
	}
	lets(t, "Feed", s.Feed("zc"), "az")
	lets(t, "Feed", s.Feed("d"), "")
	stands(t, s, "", "xaz", 1)
}

// R4: so are pieces, and marks are the caller's.
func TestMarksAreTheCallersOwn(t *testing.T) {
	pieces := spare("a\xe2", "\x82\xac")
	was := slices.Clone(entire(pieces))
	first, second := stream.Marks(pieces), stream.Marks(pieces)
	for i := range entire(first) {
		entire(first)[i] = -1
	}
	if !slices.Equal(second, []int{1, 4, 4}) || !slices.Equal(entire(pieces), was) {
		t.Error(second, pieces)
	}
	marks(t, pieces, 1, 4, 4)
}

// R4: so are events.
func TestEventsAreTheCallersOwn(t *testing.T) {
	const s = "event: x\ndata: 1\n\ndata: 2\n\n"
	first, _ := stream.Events(s)
	second, _ := stream.Events(s)
	for i := range entire(first) {
		entire(first)[i] = event("z", "z")
	}
	if !slices.Equal(second[:2], append(second[:0:0], event("x", "1"), event("", "2"))) {
		t.Errorf("%q", second)
	}
	hears(t, s, len(s), event("x", "1"), event("", "2"))
}

// R4: what was told stays as it is, whatever is fed later.
func TestTextStaysAsItWasTold(t *testing.T) {
	s := begun(t, "stop")
	var told, want []string
	for n := range 200 {
		part := strings.Repeat("é", n%7)
		lets(t, "Feed", s.Feed(part), part)
		told = append(told, s.Text())
		want = append(want, strings.Join(append(want[:0:0], last(want), part), ""))
	}
	if !slices.Equal(told, want) {
		t.Error("a text has changed")
	}
}

func last(l []string) string {
	if len(l) == 0 {
		return ""
	}
	return l[len(l)-1]
}

// R5: streams know nothing of one another, also those by the same stop texts.
func TestStreamsKnowNothingOfOneAnother(t *testing.T) {
	stops := texts("ab", "€!")
	a, b := begun(t, stops...), begun(t, stops...)
	lets(t, "Feed", a.Feed("xa"), "x")
	lets(t, "Feed", b.Feed("b\xe2"), "b")
	stands(t, a, "a", "x", -1)
	stands(t, b, "\xe2", "b", -1)
	lets(t, "Feed", a.Feed("b"), "")
	stands(t, a, "", "x", 0)
	lets(t, "Feed", b.Feed("\x82\xac"), "")
	lets(t, "End", b.End(), "€")
	stands(t, a, "", "x", 0)
	stands(t, b, "", "b€", -1)
	c := begun(t, stops...)
	stands(t, c, "", "", -1)
	lets(t, "Feed", c.Feed("b"), "b")
}
