package stream_test

import (
	"slices"
	"strings"
	"testing"

	"herald/api"
	"herald/stream"
)

// event is an event.
func event(name, data string) api.Event { return api.Event{Name: name, Data: data} }

// tells asks for the lines of an event.
func tells(t *testing.T, name, data, want string) {
	t.Helper()
	if s, e := stream.Event(name, data); s != want || e != api.OK {
		t.Errorf("Event(%q, %q): %q, %d and not %q", name, data, s, e, want)
	}
}

// tellsNot asks for the error of what is no event.
func tellsNot(t *testing.T, name, data string) {
	t.Helper()
	if s, e := stream.Event(name, data); s != "" || e != api.ErrEvent {
		t.Errorf("Event(%q, %q): %q, %d", name, data, s, e)
	}
}

// hears asks for the events that a text begins with, and for their bytes.
func hears(t *testing.T, s string, bytes int, want ...api.Event) {
	t.Helper()
	if l, n := stream.Events(s); !slices.Equal(l, want) || n != bytes {
		t.Errorf("Events(%q): %q, %d and not %q, %d", s, l, n, want, bytes)
	}
}

// 14.10
func TestEvent(t *testing.T) {
	tells(t, "", "", "data: \n\n")
	tells(t, "x", "", "event: x\ndata: \n\n")
	tells(t, "x", "1", "event: x\ndata: 1\n\n")
	tells(t, "", "a\nb", "data: a\ndata: b\n\n")
	tells(t, "", "\n", "data: \ndata: \n\n")
	tells(t, "", "a\n\n b\n", "data: a\ndata: \ndata:  b\ndata: \n\n")
	tells(t, " a:b ", "event: x", "event:  a:b \ndata: event: x\n\n")
	tells(t, "€", "😀"+sign+"\x00\t", "event: €\ndata: 😀"+sign+"\x00\t\n\n")
	tells(t, " ", " ", "event:  \ndata:  \n\n")
}

// 14.10
func TestEventOfWhatIsNone(t *testing.T) {
	for _, s := range texts("\n", "\r", "a\n", "\ra", "a\r\nb", "\xff", "\xe2\x82", "a\x80", "\xed\xa0\x80") {
		tellsNot(t, s, "")
		tellsNot(t, s, "data")
		tellsNot(t, "€"+s+"€", "data")
	}
	for _, s := range texts("\r", "a\r", "\ra", "a\r\nb", "\xff", "\xe2\x82", "a\x80", "\n\xf0\x9f") {
		tellsNot(t, "", s)
		tellsNot(t, "name", s)
		tellsNot(t, "name", "a\n"+s+"\nb")
	}
}

// 14.10
func TestEvents(t *testing.T) {
	hears(t, "", 0)
	hears(t, "data: 1", 0)
	hears(t, "data: 1\n", 0)
	hears(t, "data: 1\n\n", 9, event("", "1"))
	hears(t, "data: 1\n\ndata: 2\n\n", 18, event("", "1"), event("", "2"))
	hears(t, "data: 1\n\ndata: 2\n", 9, event("", "1"))
	hears(t, "data: 1\n\ndata: 2", 9, event("", "1"))
	hears(t, "data: a\ndata: b\ndata:\n\n", 23, event("", "a\nb\n"))
	hears(t, "data:\n\n", 7, event("", ""))
	hears(t, "data: \n\n", 8, event("", ""))
	hears(t, "data:a\n\n", 8, event("", "a"))
	hears(t, "data:  a\n\n", 10, event("", " a"))
	hears(t, "data:\ta\n\n", 9, event("", "\ta"))
	hears(t, "data:: a\n\n", 10, event("", ": a"))
}

// 14.10: the last name counts, for its own event alone.
func TestEventsHaveNames(t *testing.T) {
	hears(t, "event: x\ndata: 1\n\n", 18, event("x", "1"))
	hears(t, "data: 1\nevent: x\n\n", 18, event("x", "1"))
	hears(t, "event: x\nevent:y\ndata: 1\n\n", 26, event("y", "1"))
	hears(t, "event: x\ndata: 1\nevent:  y\ndata: 2\n\n", 36, event(" y", "1\n2"))
	hears(t, "event: x\nevent:\ndata: 1\n\n", 25, event("", "1"))
	hears(t, "event: x\ndata: 1\n\ndata: 2\n\n", 27, event("x", "1"), event("", "2"))
	hears(t, "event: x\n\ndata: 1\n\n", 19, event("", "1"))
	hears(t, "event: x\n\n", 10)
	hears(t, "event: x\n", 0)
}

// 14.10: empty lines without data are bytes, but no events.
func TestEventsOfEmptyLines(t *testing.T) {
	hears(t, "\n", 1)
	hears(t, "\n\n\n", 3)
	hears(t, "\n\na", 2)
	hears(t, "\n\ndata: 1\n\n\n", 12, event("", "1"))
	hears(t, "data: 1\n\n\nevent: x\n", 10, event("", "1"))
	hears(t, "id: 1\n\ndata", 7)
}

// 14.10: other lines are let be.
func TestEventsOfOtherLines(t *testing.T) {
	for _, other := range texts(":", ": data: 2", "data", "data :2", " data: 2", "Data: 2", "DATA:2", "event", "event :y", " event: y", "Event:y", "id: 7", "retry: 8", " ", "\r", "\t", "datas: 2", "events: y", "dat", "\xffdata: 2", "\x00") {
		n := len(other) + 1
		hears(t, other+"\nevent: x\n"+other+"\ndata: 1\n"+other+"\n\n", 18+3*n, event("x", "1"))
		hears(t, other+"\n\n", n+1)
		hears(t, other+"\n", 0)
		hears(t, "data: 1\n\n"+other+"\n", 9, event("", "1"))
	}
	hears(t, "data: 1\r\n\r\ndata: 2\n\n", 20, event("", "1\r\n2"))
	hears(t, "event: x\r\ndata: 1\n\n", 19, event("x\r", "1"))
	hears(t, "data: \xff\xe2\x00\n\n", 11, event("", "\xff\xe2\x00"))
}

// 14.10: by the words.
func TestEventsByTheWords(t *testing.T) {
	s := spread(5)
	heard := 0
	for range 20000 {
		text := s.text(s.below(14), "data:", "event:", "\n", "\n", "\n\n", " ", "a", "é", "\r", "data: 1\n", "event: x\n", ":", "\xff")
		want, bytes := eventsOf(text)
		heard += len(want)
		hears(t, text, bytes, want...)
	}
	if heard < 2000 {
		t.Error(heard)
	}
	met := map[api.Errno]int{}
	for range 5000 {
		name, data := s.text(s.below(5), "a", "é", " ", ":", "b", "c", "d", "e", "\n", "\r", "\xff"), s.text(s.below(8), "a", "é", " ", "\n", ":", "b", "\r", "\xe2")
		want, e := eventOf(name, data)
		met[e]++
		if e == api.OK {
			tells(t, name, data, want)
		} else {
			tellsNot(t, name, data)
		}
	}
	if met[api.OK] < 500 || met[api.ErrEvent] < 500 {
		t.Error(met)
	}
}

// 14.10: many lines, and a long one.
func TestEventsOfMuch(t *testing.T) {
	data := strings.Repeat("line\n", 100000) + strings.Repeat("x", 1000000)
	s, _ := stream.Event("name", data)
	hears(t, s+s+"data: half", 2*len(s), event("name", data), event("name", data))
	l, n := stream.Events(strings.Repeat("data:\n\n", 200000))
	if len(l) != 200000 || n != 1400000 {
		t.Error(len(l), n)
	}
}
