package stream_test

import (
	"testing"

	"herald/stream"
)

// 14.6
func TestNilStream(t *testing.T) {
	var s *stream.Stream
	for range 2 {
		lets(t, "Feed", s.Feed("abc"), "")
		lets(t, "Feed", s.Feed("\xe2"), "")
		stands(t, s, "", "", -1)
		lets(t, "End", s.End(), "")
	}
}

// R1: one that no New made, too.
func TestStreamWithoutNew(t *testing.T) {
	var s stream.Stream
	lets(t, "Feed", s.Feed("a\xe2"), "a")
	lets(t, "End", s.End(), sign)
	stands(t, &s, "", "a"+sign, -1)
}
