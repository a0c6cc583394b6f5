package wire_test

import (
	"math"
	"slices"
	"strings"
	"testing"

	"herald/api"
	"herald/wire"
)

// frameOf is the frame of a text.
func frameOf(t *testing.T, s string) string {
	t.Helper()
	w := wire.NewWriter()
	if e := w.Frame(s); e != api.OK {
		t.Fatal(e)
	}
	return w.Bytes()
}

// 1.9
func TestWriteFrame(t *testing.T) {
	w := wire.NewWriter()
	w.Raw("ahead")
	for _, s := range []string{"", "a", "123456789"} {
		if e := w.Frame(s); e != api.OK {
			t.Errorf("Frame(%q): %d", s, e)
		}
	}
	wrote(t, w, "ahead\x00\x00\x00\x00\x00\x01a\x43\xbe\xb7\xe8\x09123456789\x26\x39\xf4\xcb")
	for _, s := range append(someTexts(), strings.Repeat("long", 40000)) {
		want := wire.NewWriter()
		want.Short(len(s))
		want.Raw(s)
		want.Number(int(wire.Crc(s)), 4)
		if got := frameOf(t, s); got != want.Bytes() {
			t.Errorf("Frame(%.20q): %.30q, not %.30q", s, got, want.Bytes())
		}
	}
}

// 1.9
func TestWriteFrameTooLong(t *testing.T) {
	w := wire.NewWriter()
	w.Raw("ahead")
	if e := w.Frame(longText(1 << 31)); e != api.ErrLong || w.Len() != 5 {
		t.Fatalf("Frame of 2^31 bytes: %d, Len %d", e, w.Len())
	}
	wrote(t, w, "ahead")
}

// 1.9
func TestReadFrame(t *testing.T) {
	long := strings.Repeat("\xfe", 300)
	for _, x := range []struct {
		text string
		most int
		want string
		took int
	}{
		{"\x01a\x43\xbe\xb7\xe8", 1, "a", 6},
		{"\x01a\x43\xbe\xb7\xe8", math.MaxInt, "a", 6},
		{"\x01a\x43\xbe\xb7\xe8\x01b", 9, "a", 6},
		{"\x00\x00\x00\x00\x00", 0, "", 5},
		{"\x00\x00\x00\x00\x00\x00", 3, "", 5},
		{frameOf(t, long), 300, long, 306},
	} {
		r := behind(t, "\xaa\xbb"+x.text, 2)
		if s, e := r.Frame(x.most); s != x.want || e != api.OK {
			t.Errorf("%.20q: Frame(%d): %.20q, %d", x.text, x.most, s, e)
		}
		stands(t, r, 2+x.took, 2+len(x.text))
	}
}

// 1.9
func TestReadFrameRefused(t *testing.T) {
	const a = "\x01a\x43\xbe\xb7\xe8"
	nine := strings.Repeat("\x80", 9)
	for _, x := range []struct {
		text string
		most int
		want api.Errno
	}{
		{a, -1, api.ErrArg},
		{"", -1, api.ErrArg},
		{"\x80\x00", math.MinInt, api.ErrArg},
		{"", 9, api.ErrShort},
		{"\x80", 0, api.ErrShort},
		{nine, 9, api.ErrWide},
		{nine + "\x01", math.MaxInt, api.ErrWide},
		{"\x80\x00\x00\x00\x00\x00", 9, api.ErrForm},
		{"\x81\x00a\x43\xbe\xb7\xe8", 9, api.ErrForm},
		{a, 0, api.ErrLong},
		{"\x02a", 1, api.ErrLong},
		{"\x01", 0, api.ErrLong},
		{"\xff\xff\xff\xff\xff\xff\xff\xff\x7f", math.MaxInt - 1, api.ErrLong},
		{"\xff\xff\xff\xff\xff\xff\xff\xff\x7f", math.MaxInt, api.ErrShort},
		{"\xfc\xff\xff\xff\xff\xff\xff\xff\x7f" + a, math.MaxInt, api.ErrShort},
		{"\x00", 0, api.ErrShort},
		{"\x00\x00\x00\x00", 0, api.ErrShort},
		{"\x00\x01\x00\x00", 0, api.ErrShort},
		{a[:1], 1, api.ErrShort},
		{a[:2], 1, api.ErrShort},
		{a[:5], 1, api.ErrShort},
		{"\x05a\x43\xbe\xb7\xe8", 5, api.ErrShort},
		{"\x02a\x43\xbe\xb7\xe8", 2, api.ErrShort},
		{"\x01b\x43\xbe\xb7\xe8", 1, api.ErrSum},
		{"\x01a\x43\xbe\xb7\xe9", 1, api.ErrSum},
		{"\x01a\xe8\xb7\xbe\x43", 1, api.ErrSum},
		{"\x00\x01\x00\x00\x00", 0, api.ErrSum},
		{"\x00a\x43\xbe\xb7\xe8", 0, api.ErrSum},
	} {
		r := behind(t, "\xaa\xbb"+x.text, 2)
		for range 2 {
			if s, e := r.Frame(x.most); s != "" || e != x.want {
				t.Errorf("%q: Frame(%d): %q, %d, not %d", x.text, x.most, s, e, x.want)
			}
			stands(t, r, 2, 2+len(x.text))
		}
	}
}

// 1.11
func TestFrameWithABitTurned(t *testing.T) {
	for _, s := range []string{"", "a", "\x00\x00\x00", "some text", strings.Repeat("\xff", 200)} {
		whole := frameOf(t, s)
		from := len(whole) - len(s) - 4
		for i := from; i < len(whole); i++ {
			for bit := range 8 {
				b := []byte(whole)
				b[i] ^= 1 << bit
				if got, e := wire.NewReader(string(b)).Frame(len(s)); got != "" || e != api.ErrSum {
					t.Errorf("frame of %.20q, byte %d, bit %d: %q, %d", s, i, bit, got, e)
				}
				if l, n := wire.Frames(string(b)); len(l) != 0 || n != 0 {
					t.Errorf("frame of %.20q, byte %d, bit %d: Frames %q, %d", s, i, bit, l, n)
				}
			}
		}
	}
}

// 1.9, 1.11
func TestFramesCutAnywhere(t *testing.T) {
	texts := []string{"a", "", "\x80\x00", strings.Repeat("xyz", 60), "", "end"}
	whole := ""
	var ends []int
	for _, s := range texts {
		whole += frameOf(t, s)
		ends = append(ends, len(whole))
	}
	for cut := range len(whole) + 1 {
		count, took := 0, 0
		for count < len(ends) && ends[count] <= cut {
			took = ends[count]
			count++
		}
		l, n := wire.Frames(whole[:cut])
		if !slices.Equal(l, texts[:count]) || n != took {
			t.Errorf("cut at %d: %q, %d, not %q, %d", cut, l, n, texts[:count], took)
		}
	}
}

// 1.9
func TestFramesStopAtTheFirstFault(t *testing.T) {
	const a, b = "\x01a\x43\xbe\xb7\xe8", "\x01b\xf9\xef\xbe\x71"
	for text, want := range map[string]struct {
		l []string
		n int
	}{
		"":                                    {nil, 0},
		a:                                     {[]string{"a"}, 6},
		a + b:                                 {[]string{"a", "b"}, 12},
		a + "\x01b":                           {[]string{"a"}, 6},
		a + "\x01c\xf9\xef\xbe\x71" + b:       {[]string{"a"}, 6},
		"\x81\x00a\x43\xbe\xb7\xe8" + b:       {nil, 0},
		"\x00" + a:                            {nil, 0},
		a + a + strings.Repeat("\x80", 9) + b: {[]string{"a", "a"}, 12},
		"\xff\xff\xff\xff\xff\xff\xff\xff\x7f" + a:     {nil, 0},
		"\x00\x00\x00\x00\x00\x00\x00\x00\x00\x00\x00": {[]string{"", ""}, 10},
	} {
		if l, n := wire.Frames(text); !slices.Equal(l, want.l) || n != want.n {
			t.Errorf("Frames(%q): %q, %d, not %q, %d", text, l, n, want.l, want.n)
		}
	}
}

// 1.9: Frames takes frames of any length.
func TestFramesOfLongTexts(t *testing.T) {
	long := strings.Repeat("0123456789abcdef", 1<<16)
	whole := frameOf(t, long)
	l, n := wire.Frames(whole + whole + whole[:len(whole)-1])
	if len(l) != 2 || l[0] != long || l[1] != long || n != 2*len(whole) {
		t.Error(len(l), n)
	}
}
