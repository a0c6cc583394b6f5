package wire_test

import (
	"math"
	"strings"
	"sync"
	"testing"
	"unsafe"

	"herald/api"
	"herald/wire"
)

// zeros is 2^32 bytes 0, made once and kept: fresh memory that nobody has read costs nothing, but memory made again is wiped.
var zeros = sync.OnceValue(func() []byte { return make([]byte, 1<<32) })

// longText is n bytes 0, at most 2^32: they may be counted, not copied.
func longText(n int) string { return unsafe.String(&zeros()[0], n) }

// wrote tells of a fault, if w has not written just these bytes.
func wrote(t *testing.T, w *wire.Writer, want string) {
	t.Helper()
	if got := w.Bytes(); got != want || w.Len() != len(want) {
		t.Errorf("written %q (Len %d), not %q", got, w.Len(), want)
	}
}

// 1.2
func TestWriterBegins(t *testing.T) {
	wrote(t, wire.NewWriter(), "")
}

// 1.2
func TestWriteNumber(t *testing.T) {
	for _, x := range []struct {
		n, bytes int
		want     string
	}{
		{0, 1, "\x00"},
		{1, 1, "\x01"},
		{128, 1, "\x80"},
		{255, 1, "\xff"},
		{0, 2, "\x00\x00"},
		{258, 2, "\x02\x01"},
		{256, 2, "\x00\x01"},
		{65535, 2, "\xff\xff"},
		{0, 4, "\x00\x00\x00\x00"},
		{65536, 4, "\x00\x00\x01\x00"},
		{0x04030201, 4, "\x01\x02\x03\x04"},
		{4294967295, 4, "\xff\xff\xff\xff"},
		{0, 8, "\x00\x00\x00\x00\x00\x00\x00\x00"},
		{4294967296, 8, "\x00\x00\x00\x00\x01\x00\x00\x00"},
		{0x0807060504030201, 8, "\x01\x02\x03\x04\x05\x06\x07\x08"},
		{math.MaxInt64, 8, "\xff\xff\xff\xff\xff\xff\xff\x7f"},
	} {
		w := wire.NewWriter()
		w.Raw("ahead")
		if e := w.Number(x.n, x.bytes); e != api.OK {
			t.Errorf("Number(%d, %d): %d", x.n, x.bytes, e)
		}
		wrote(t, w, "ahead"+x.want)
	}
}

// 1.2
func TestWriteNumberRefused(t *testing.T) {
	w := wire.NewWriter()
	w.Raw("ahead")
	refuse := func(n, bytes int, want api.Errno) {
		t.Helper()
		if e := w.Number(n, bytes); e != want {
			t.Errorf("Number(%d, %d): %d, not %d", n, bytes, e, want)
		}
		wrote(t, w, "ahead")
	}
	for _, bytes := range []int{math.MinInt, -8, -4, -2, -1, 0, 3, 5, 6, 7, 9, 10, 16, 32, 64, 257, math.MaxInt} {
		for _, n := range []int{math.MinInt, -1, 0, 1, 255, math.MaxInt} {
			refuse(n, bytes, api.ErrArg)
		}
	}
	for _, bytes := range []int{1, 2, 4, 8} {
		for _, n := range []int{-1, -2, -128, -256, math.MinInt, math.MinInt + 1} {
			refuse(n, bytes, api.ErrWide)
		}
	}
	for bytes, past := range map[int]int{1: 256, 2: 65536, 4: 4294967296} {
		for _, n := range []int{past, past + 1, 2 * past, math.MaxInt - past, math.MaxInt} {
			refuse(n, bytes, api.ErrWide)
		}
	}
}

// 1.2
func TestWriteRow(t *testing.T) {
	w := wire.NewWriter()
	w.Row(nil)
	w.Row([]int8{})
	wrote(t, w, "")
	w.Row([]int8{-1, 2})
	wrote(t, w, "\xff\x02")
	w.Row([]int8{-128, 127, 0, -127})
	wrote(t, w, "\xff\x02\x80\x7f\x00\x81")
	var all []int8
	var want strings.Builder
	for n := -128; n < 128; n++ {
		all = append(all, int8(n))
		want.WriteByte(byte((n + 256) % 256))
	}
	w = wire.NewWriter()
	w.Row(all)
	wrote(t, w, want.String())
}

// 1.2
func TestWriteRaw(t *testing.T) {
	w := wire.NewWriter()
	want := ""
	for _, s := range someTexts() {
		w.Raw(s)
		want += s
	}
	wrote(t, w, want)
}

// 1.2
func TestWriteText(t *testing.T) {
	for s, want := range map[string]string{
		"":                         "\x00\x00\x00\x00",
		"hi":                       "\x02\x00\x00\x00hi",
		"\x00\xff\x80":             "\x03\x00\x00\x00\x00\xff\x80",
		strings.Repeat("x", 256):   "\x00\x01\x00\x00" + strings.Repeat("x", 256),
		strings.Repeat("é", 50000): "\xa0\x86\x01\x00" + strings.Repeat("é", 50000),
	} {
		w := wire.NewWriter()
		w.Raw("ahead")
		if e := w.Text(s); e != api.OK {
			t.Errorf("Text of %d bytes: %d", len(s), e)
		}
		wrote(t, w, "ahead"+want)
	}
}

// 1.2
func TestWriteTextTooLong(t *testing.T) {
	w := wire.NewWriter()
	w.Raw("ahead")
	if e := w.Text(longText(1 << 32)); e != api.ErrLong || w.Len() != 5 {
		t.Fatalf("Text of 2^32 bytes: %d, Len %d", e, w.Len())
	}
	wrote(t, w, "ahead")
}

// R5: a Writer goes on behind an error as if nothing had been.
func TestWriteBehindErrors(t *testing.T) {
	w := wire.NewWriter()
	w.Number(256, 1)
	w.Number(1, 1)
	w.Number(1, 3)
	w.Short(-1)
	w.Raw("b")
	wrote(t, w, "\x01b")
}
