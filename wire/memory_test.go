package wire_test

import (
	"slices"
	"testing"
	"unsafe"

	"herald/api"
	"herald/wire"
)

// changing is bytes that can still be changed, and a text that lies in the same memory.
func changing(s string) ([]byte, string) {
	b := []byte(s)
	return b, unsafe.String(&b[0], len(b))
}

// overlap tells whether two texts lie in the same memory.
func overlap(a, b string) bool {
	if a == "" || b == "" {
		return false
	}
	x := uintptr(unsafe.Pointer(unsafe.StringData(a)))
	y := uintptr(unsafe.Pointer(unsafe.StringData(b)))
	return x < y+uintptr(len(b)) && y < x+uintptr(len(a))
}

// apart tells of a fault, if two of some texts lie in the same memory.
func apart(t *testing.T, l ...string) {
	t.Helper()
	for i := range l {
		for j := range i {
			if overlap(l[i], l[j]) {
				t.Errorf("%q and %q share memory", l[j], l[i])
			}
		}
	}
}

// R4: a Writer changes and keeps nothing of what it is handed.
func TestWriterKeepsNothing(t *testing.T) {
	room := []int8{1, 2, 3, 4, 5}
	w := wire.NewWriter()
	w.Row(room[:2])
	w.Number(7, 1)
	w.Row(room[1:3])
	if !slices.Equal(room, []int8{1, 2, 3, 4, 5}) {
		t.Error("a row was changed", room)
	}
	raw, rawText := changing("raw")
	text, textText := changing("text")
	frame, frameText := changing("frame")
	w.Raw(rawText)
	w.Text(textText)
	w.Frame(frameText)
	want := w.Bytes()
	clear(room)
	clear(raw)
	clear(text)
	clear(frame)
	wrote(t, w, want)
	if want[:8] != "\x01\x02\x07\x02\x03raw" {
		t.Errorf("%q", want)
	}
}

// R4: what Bytes handed out stays as it is, and is new each time.
func TestBytesAreNew(t *testing.T) {
	w := wire.NewWriter()
	w.Raw("first")
	a := w.Bytes()
	b := w.Bytes()
	w.Raw("second")
	c := w.Bytes()
	if a != "first" || b != "first" || c != "firstsecond" {
		t.Errorf("%q %q %q", a, b, c)
	}
	apart(t, a, b, c)
}

// R4: a Reader keeps nothing of the text that it was handed.
func TestReaderKeepsNothing(t *testing.T) {
	b, s := changing("\x02\x01" + "ab" + "\x02\x00\x00\x00hi" + "\x01a\x43\xbe\xb7\xe8")
	r := wire.NewReader(s)
	clear(b)
	n, e := r.Number(2)
	l, f := r.Row(1)
	raw, g := r.Raw(1)
	text, h := r.Text(2)
	frame, i := r.Frame(1)
	if n != 258 || !slices.Equal(l, []int8{'a'}) || raw != "b" || text != "hi" || frame != "a" {
		t.Error(n, l, raw, text, frame, e, f, g, h, i)
	}
}

// R4: what a Reader hands out is new memory.
func TestReadIsNew(t *testing.T) {
	frame := frameOf(t, "frame")
	s := "raw" + "raw" + "\x04\x00\x00\x00text" + frame
	r := wire.NewReader(s)
	a, _ := r.Raw(3)
	b, _ := r.Raw(3)
	c, _ := r.Text(9)
	d, e := r.Frame(9)
	if a != "raw" || b != "raw" || c != "text" || d != "frame" || e != api.OK {
		t.Errorf("%q %q %q %q %d", a, b, c, d, e)
	}
	apart(t, s, a, b, c, d)
	again := wire.NewReader(s)
	twin := *again // it reads the same bytes that the other one keeps
	f, _ := again.Raw(3)
	g, _ := twin.Raw(3)
	apart(t, s, a, f, g)
	l, _ := wire.Frames(frame + frame)
	if len(l) != 2 {
		t.Fatal(l)
	}
	apart(t, frame, l[0], l[1])
}

// R4: rows share nothing with one another, nor with what is read later; their spare room, too.
func TestRowsAreNew(t *testing.T) {
	r := wire.NewReader("abcdef")
	first, _ := r.Row(2)
	second, _ := r.Row(2)
	for i := range first[:cap(first)] {
		first[:cap(first)][i] = 9
	}
	third, _ := r.Row(2)
	if !slices.Equal(second, []int8{'c', 'd'}) || !slices.Equal(third, []int8{'e', 'f'}) {
		t.Error(second, third)
	}
	for i := range second[:cap(second)] {
		second[:cap(second)][i] = 8
	}
	if !slices.Equal(first, []int8{9, 9}) || !slices.Equal(third, []int8{'e', 'f'}) {
		t.Error(first, third)
	}
}

// R4: the texts of Hex and Unhex are new.
func TestHexIsNew(t *testing.T) {
	s := "some bytes"
	a, b := wire.Hex(s), wire.Hex(s)
	c, _, _ := wire.Unhex(a)
	d, _, _ := wire.Unhex(a)
	if c != s || d != s {
		t.Errorf("%q %q", c, d)
	}
	apart(t, s, a, b, c, d)
}

// R5: Writers know nothing of one another.
func TestTwoWriters(t *testing.T) {
	a, b := wire.NewWriter(), wire.NewWriter()
	a.Raw("a")
	b.Number(1, 2)
	a.Number(256, 1)
	a.Text("x")
	b.Raw("b")
	a.Short(300)
	b.Signed(-1)
	wrote(t, a, "a\x01\x00\x00\x00x\xac\x02")
	wrote(t, b, "\x01\x00b\x01")
	wrote(t, wire.NewWriter(), "")
}

// R5: Readers know nothing of one another, of the same text neither.
func TestTwoReaders(t *testing.T) {
	const s = "abcdef"
	a, b := wire.NewReader(s), wire.NewReader(s)
	if x, _ := a.Raw(4); x != "abcd" {
		t.Error(x)
	}
	stands(t, b, 0, 6)
	if x, _ := b.Raw(1); x != "a" {
		t.Error(x)
	}
	stands(t, a, 4, 6)
	stands(t, b, 1, 6)
	if x, _ := a.Raw(2); x != "ef" {
		t.Error(x)
	}
	stands(t, wire.NewReader(s), 0, 6)
}
