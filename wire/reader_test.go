package wire_test

import (
	"math"
	"slices"
	"strings"
	"testing"

	"herald/api"
	"herald/wire"
)

// stands tells of a fault, if r does not stand at that place of a text of so many bytes.
func stands(t *testing.T, r *wire.Reader, at, length int) {
	t.Helper()
	end := api.OK
	if at < length {
		end = api.ErrLeft
	}
	if r.At() != at || r.Left() != length-at || r.End() != end {
		t.Errorf("At %d, Left %d, End %d; not %d, %d, %d", r.At(), r.Left(), r.End(), at, length-at, end)
	}
}

// behind is a reader of s that has read its first n bytes.
func behind(t *testing.T, s string, n int) *wire.Reader {
	t.Helper()
	r := wire.NewReader(s)
	if _, e := r.Raw(n); e != api.OK {
		t.Fatal(e)
	}
	return r
}

// 1.3, 1.4
func TestReaderBegins(t *testing.T) {
	stands(t, wire.NewReader(""), 0, 0)
	stands(t, wire.NewReader("a"), 0, 1)
	stands(t, wire.NewReader("é\xff"), 0, 3)
}

// 1.3
func TestReadNumber(t *testing.T) {
	for _, x := range []struct {
		text string
		want int
	}{
		{"\x00", 0},
		{"\x80", 128},
		{"\xff", 255},
		{"\x02\x01", 258},
		{"\x00\x80", 32768},
		{"\xff\xff", 65535},
		{"\x01\x02\x03\x04", 0x04030201},
		{"\x00\x00\x00\x80", 2147483648},
		{"\xff\xff\xff\xff", 4294967295},
		{"\x01\x02\x03\x04\x05\x06\x07\x08", 0x0807060504030201},
		{"\x00\x00\x00\x00\x01\x00\x00\x00", 4294967296},
		{"\xff\xff\xff\xff\xff\xff\xff\x7f", math.MaxInt64},
	} {
		for _, rest := range []string{"", "\x00", "\xff\xff\xff\xff\xff\xff\xff\xff"} {
			r := behind(t, "\xaa\xbb"+x.text+rest, 2)
			n, e := r.Number(len(x.text))
			if n != x.want || e != api.OK {
				t.Errorf("%q: Number(%d): %d, %d", x.text+rest, len(x.text), n, e)
			}
			stands(t, r, 2+len(x.text), 2+len(x.text)+len(rest))
		}
	}
}

// 1.3
func TestReadNumberRefused(t *testing.T) {
	refuse := func(text string, bytes int, want api.Errno) {
		t.Helper()
		r := behind(t, "\xaa"+text, 1)
		for range 2 {
			if n, e := r.Number(bytes); n != 0 || e != want {
				t.Errorf("%q: Number(%d): %d, %d, not %d", text, bytes, n, e, want)
			}
			stands(t, r, 1, 1+len(text))
		}
	}
	for _, bytes := range []int{math.MinInt, -8, -1, 0, 3, 5, 6, 7, 9, 16, math.MaxInt} {
		refuse("", bytes, api.ErrArg)
		refuse(strings.Repeat("\xff", 20), bytes, api.ErrArg)
	}
	for _, bytes := range []int{1, 2, 4, 8} {
		for left := range bytes {
			refuse(strings.Repeat("\xff", left), bytes, api.ErrShort)
		}
	}
	refuse("\xff\xff\xff\xff\xff\xff\xff\xff", 8, api.ErrWide)
	refuse("\x00\x00\x00\x00\x00\x00\x00\x80", 8, api.ErrWide)
	refuse("\x00\x00\x00\x00\x00\x00\x00\x80\x00", 8, api.ErrWide)
}

// 1.3
func TestReadRow(t *testing.T) {
	var all strings.Builder
	var want []int8
	for b := range 256 {
		all.WriteByte(byte(b))
		if b > 127 {
			want = append(want, int8(b-256))
		} else {
			want = append(want, int8(b))
		}
	}
	r := wire.NewReader("x" + all.String() + "y")
	if l, e := r.Row(1); e != api.OK || !slices.Equal(l, []int8{'x'}) {
		t.Error(l, e)
	}
	if l, e := r.Row(256); e != api.OK || !slices.Equal(l, want) {
		t.Error(l, e)
	}
	stands(t, r, 257, 258)
	if l, e := r.Row(0); e != api.OK || len(l) != 0 {
		t.Error(l, e)
	}
	for n, want := range map[int]api.Errno{2: api.ErrShort, math.MaxInt: api.ErrShort, -1: api.ErrArg, math.MinInt: api.ErrArg} {
		if l, e := r.Row(n); e != want || len(l) != 0 {
			t.Errorf("Row(%d): %v, %d, not %d", n, l, e, want)
		}
		stands(t, r, 257, 258)
	}
	if l, e := r.Row(1); e != api.OK || !slices.Equal(l, []int8{'y'}) {
		t.Error(l, e)
	}
	if l, e := r.Row(0); e != api.OK || len(l) != 0 {
		t.Error(l, e)
	}
	stands(t, r, 258, 258)
}

// 1.3
func TestReadRaw(t *testing.T) {
	r := wire.NewReader("ab\x00\xffcd")
	if s, e := r.Raw(4); s != "ab\x00\xff" || e != api.OK {
		t.Errorf("%q %d", s, e)
	}
	stands(t, r, 4, 6)
	for n, want := range map[int]api.Errno{3: api.ErrShort, math.MaxInt: api.ErrShort, -1: api.ErrArg, math.MinInt: api.ErrArg} {
		if s, e := r.Raw(n); s != "" || e != want {
			t.Errorf("Raw(%d): %q, %d, not %d", n, s, e, want)
		}
		stands(t, r, 4, 6)
	}
	if s, e := r.Raw(0); s != "" || e != api.OK {
		t.Errorf("%q %d", s, e)
	}
	if s, e := r.Raw(2); s != "cd" || e != api.OK {
		t.Errorf("%q %d", s, e)
	}
	if s, e := r.Raw(0); s != "" || e != api.OK {
		t.Errorf("%q %d", s, e)
	}
	if s, e := r.Raw(1); s != "" || e != api.ErrShort {
		t.Errorf("%q %d", s, e)
	}
	stands(t, r, 6, 6)
}

// 1.3
func TestReadText(t *testing.T) {
	long := strings.Repeat("\xfe", 70000)
	for _, x := range []struct {
		text string
		most int
		want string
		e    api.Errno
	}{
		{"\x02\x00\x00\x00hi", 2, "hi", api.OK},
		{"\x02\x00\x00\x00hi", math.MaxInt, "hi", api.OK},
		{"\x02\x00\x00\x00hi there", 3, "hi", api.OK},
		{"\x00\x00\x00\x00", 0, "", api.OK},
		{"\x00\x00\x00\x00more", 9, "", api.OK},
		{"\x70\x11\x01\x00" + long, 70000, long, api.OK},
		{"\x02\x00\x00\x00hi", 1, "", api.ErrLong},
		{"\x02\x00\x00\x00hi", 0, "", api.ErrLong},
		{"\x01\x00\x00\x00h", 0, "", api.ErrLong},
		{"\x70\x11\x01\x00" + long, 69999, "", api.ErrLong},
		{"\xff\xff\xff\xff", 4294967294, "", api.ErrLong},
		{"\xff\xff\xff\xff", 4294967295, "", api.ErrShort},
		{"\xff\xff\xff\x7f", math.MaxInt, "", api.ErrShort},
		{"\x02\x00\x00\x00h", 1, "", api.ErrLong},
		{"\x02\x00\x00\x00h", 2, "", api.ErrShort},
		{"\x02\x00\x00\x00h", 9, "", api.ErrShort},
		{"\x01\x00\x00\x00", 1, "", api.ErrShort},
		{"\x00\x00\x00", 0, "", api.ErrShort},
		{"\xff\xff\xff", 0, "", api.ErrShort},
		{"\xff", 9, "", api.ErrShort},
		{"", 9, "", api.ErrShort},
		{"\x02\x00\x00\x00hi", -1, "", api.ErrArg},
		{"\x00\x00\x00\x00", -1, "", api.ErrArg},
		{"", math.MinInt, "", api.ErrArg},
	} {
		r := behind(t, "\xaa\xbb\xcc"+x.text, 3)
		s, e := r.Text(x.most)
		if s != x.want || e != x.e {
			t.Errorf("%.20q: Text(%d): %.20q, %d, not %d", x.text, x.most, s, e, x.e)
		}
		at := 3
		if x.e == api.OK {
			at += 4 + len(x.want)
		}
		stands(t, r, at, 3+len(x.text))
	}
}

// 1.3, 1.4: the chapter's example 3.
func TestReadExample(t *testing.T) {
	r := wire.NewReader("\x02\x01\xff")
	n, e := r.Number(2)
	l, f := r.Row(1)
	if n != 258 || e != api.OK || !slices.Equal(l, []int8{-1}) || f != api.OK {
		t.Error(n, e, l, f)
	}
	stands(t, r, 3, 3)
	if _, e := r.Number(1); e != api.ErrShort {
		t.Error(e)
	}
}
