package stream_test

import (
	"strconv"
	"strings"
	"testing"

	"herald/api"
	"herald/stream"
)

// refuses asks for an error of New and of Whole, and for nothing beside it.
func refuses(t *testing.T, stops []string, want api.Errno) {
	t.Helper()
	if s, e := stream.New(stops); s != nil || e != want {
		t.Errorf("New(%q): %v, %d and not %d", stops, s, e, want)
	}
	if s, at, e := stream.Whole(stops, "abc"); s != "" || at != 0 || e != want {
		t.Errorf("Whole(%q): %q, %d, %d and not %d", stops, s, at, e, want)
	}
}

// takes asks for a stream to which nothing was fed.
func takes(t *testing.T, stops []string) {
	t.Helper()
	stands(t, begun(t, stops...), "", "", -1)
	if _, _, e := stream.Whole(stops, "abc"); e != api.OK {
		t.Errorf("Whole(%q): %d", stops, e)
	}
}

// many is n stop texts.
func many(n int) []string {
	var l []string
	for i := range n {
		l = append(l, "stop"+strconv.Itoa(i))
	}
	return l
}

// 14.2, 14.5, R3
func TestNew(t *testing.T) {
	takes(t, nil)
	takes(t, texts())
	takes(t, texts("a"))
	takes(t, texts("a", "a", "b", "a"))
	takes(t, texts("\x00", "\n", "€", "😀", sign))
}

// 14.2, 14.5
func TestNewOfWhatAreNoStops(t *testing.T) {
	for _, none := range texts("", "\xff", "a\x80", "\xe2\x82", "\xe2\x82\xac\xe2", "\xc0\x80", "\xed\xa0\x80", "\xf4\x90\x80\x80", "a\xffb") {
		refuses(t, texts(none), api.ErrStop)
		refuses(t, texts("a", none), api.ErrStop)
		refuses(t, texts(none, "a"), api.ErrStop)
		refuses(t, append(many(15), none), api.ErrStop)
	}
}

// 14.2, 14.5, R6: the limits, and one past them.
func TestNewAtTheLimits(t *testing.T) {
	takes(t, many(16))
	refuses(t, many(17), api.ErrStops)
	takes(t, texts("a", strings.Repeat("a", 64)))
	refuses(t, texts("a", strings.Repeat("a", 65)), api.ErrStop)
	takes(t, texts(strings.Repeat("😀", 16)))
	refuses(t, texts(strings.Repeat("😀", 16)+"a"), api.ErrStop)
	refuses(t, texts(strings.Repeat("é", 33)), api.ErrStop) // fewer than 64 characters
}

// 14.2, R2: too many ahead of those that are none.
func TestNewTellsTooManyFirst(t *testing.T) {
	refuses(t, append(many(16), ""), api.ErrStops)
	refuses(t, append(texts("\xff"), many(16)...), api.ErrStops)
	refuses(t, append(texts(strings.Repeat("a", 65)), many(99)...), api.ErrStops)
}

// 14.2: by the words, of stop texts of all kinds.
func TestNewByTheWords(t *testing.T) {
	s := spread(1)
	met := map[api.Errno]int{}
	for range 3000 {
		var stops []string
		for range s.below(20) {
			stop := s.text(1+s.below(5), "a", "é", "€", "😀")
			switch s.below(40) {
			case 0:
				stop = ""
			case 1:
				stop = s.text(66, "a", "é")
			case 2:
				stop = stop[:s.below(len(stop))]
			}
			stops = append(stops, stop)
		}
		want := newOf(stops)
		met[want]++
		if want == api.OK {
			takes(t, stops)
		} else {
			refuses(t, stops, want)
		}
	}
	if met[api.OK] < 100 || met[api.ErrStop] < 100 || met[api.ErrStops] < 100 {
		t.Error(met)
	}
}
