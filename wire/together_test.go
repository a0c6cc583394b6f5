package wire_test

import (
	"math/rand"
	"slices"
	"strings"
	"testing"

	"herald/api"
	"herald/wire"
)

// call is a call of a Writer, and the call of a Reader that reads back what it wrote.
type call struct {
	write func(w *wire.Writer) api.Errno
	read  func(r *wire.Reader) bool
}

func numberCall(n, bytes int) call {
	return call{
		func(w *wire.Writer) api.Errno { return w.Number(n, bytes) },
		func(r *wire.Reader) bool { got, e := r.Number(bytes); return got == n && e == api.OK },
	}
}

func rowCall(l []int8) call {
	return call{
		func(w *wire.Writer) api.Errno { w.Row(l); return api.OK },
		func(r *wire.Reader) bool { got, e := r.Row(len(l)); return slices.Equal(got, l) && e == api.OK },
	}
}

func rawCall(s string) call {
	return call{
		func(w *wire.Writer) api.Errno { w.Raw(s); return api.OK },
		func(r *wire.Reader) bool { got, e := r.Raw(len(s)); return got == s && e == api.OK },
	}
}

func textCall(s string) call {
	return call{
		func(w *wire.Writer) api.Errno { return w.Text(s) },
		func(r *wire.Reader) bool { got, e := r.Text(len(s)); return got == s && e == api.OK },
	}
}

func shortCall(n int) call {
	return call{
		func(w *wire.Writer) api.Errno { return w.Short(n) },
		func(r *wire.Reader) bool { got, e := r.Short(); return got == n && e == api.OK },
	}
}

func signedCall(n int) call {
	return call{
		func(w *wire.Writer) api.Errno { w.Signed(n); return api.OK },
		func(r *wire.Reader) bool { got, e := r.Signed(); return got == n && e == api.OK },
	}
}

func frameCall(s string) call {
	return call{
		func(w *wire.Writer) api.Errno { return w.Frame(s) },
		func(r *wire.Reader) bool { got, e := r.Frame(len(s)); return got == s && e == api.OK },
	}
}

// someCall is a call with arguments of all sizes.
func someCall(source *rand.Rand) call {
	n := int(source.Uint64()>>1) >> source.Intn(63)
	b := make([]byte, source.Intn(200))
	source.Read(b)
	row := make([]int8, len(b))
	for i := range b {
		row[i] = int8(b[i])
	}
	switch source.Intn(8) {
	case 0:
		return numberCall(n%256, 1)
	case 1:
		return numberCall(n%65536, 2)
	case 2:
		return numberCall(n%4294967296, 4)
	case 3:
		return numberCall(n, 8)
	case 4:
		return rowCall(row)
	case 5:
		return textCall(string(b))
	case 6:
		return frameCall(string(b))
	}
	return []call{rawCall(string(b)), shortCall(n), signedCall(n), signedCall(-n - 1)}[source.Intn(4)]
}

// 1.6, 1.11
func TestWhatWasWrittenIsReadBack(t *testing.T) {
	source := rand.New(rand.NewSource(4))
	for range 400 {
		w := wire.NewWriter()
		var calls []call
		var ends []int
		fewer := ""
		for range source.Intn(12) {
			c := someCall(source)
			if e := c.write(w); e != api.OK {
				t.Fatal(e)
			}
			more := w.Bytes()
			if !strings.HasPrefix(more, fewer) || w.Len() != len(more) {
				t.Fatalf("%q does not begin with %q, or is not %d long", more, fewer, w.Len())
			}
			fewer = more
			calls = append(calls, c)
			ends = append(ends, len(more))
		}
		for _, rest := range []string{"", "\x00", "\x80\xff", fewer} {
			r := wire.NewReader(fewer + rest)
			for i, c := range calls {
				if !c.read(r) {
					t.Fatalf("call %d of %q is not read back", i, fewer)
				}
				stands(t, r, ends[i], len(fewer)+len(rest))
			}
			if got, e := r.Raw(r.Left()); got != rest || e != api.OK {
				t.Fatalf("%q is left, not %q", got, rest)
			}
		}
	}
}

// 1.11
func TestNumbersAreReadBack(t *testing.T) {
	for _, n := range someNumbers() {
		for _, rest := range []string{"", "\x00", "\xff"} {
			w := wire.NewWriter()
			w.Short(n)
			w.Signed(n)
			w.Signed(-n)
			w.Signed(-n - 1)
			w.Raw(rest)
			r := wire.NewReader(w.Bytes())
			for _, c := range []call{shortCall(n), signedCall(n), signedCall(-n), signedCall(-n - 1)} {
				if !c.read(r) {
					t.Errorf("%d is not read back", n)
				}
			}
			stands(t, r, w.Len()-len(rest), w.Len())
		}
	}
}

// 1.11
func TestFramesAreReadBack(t *testing.T) {
	whole := ""
	for _, s := range someTexts() {
		whole += frameOf(t, s)
	}
	if l, n := wire.Frames(whole + "\x01"); !slices.Equal(l, someTexts()) || n != len(whole) {
		t.Error(len(l), n)
	}
	// A frame is a text as others are: frames go into frames.
	outer := frameOf(t, whole)
	if l, n := wire.Frames(outer); !slices.Equal(l, []string{whole}) || n != len(outer) {
		t.Error(len(l), n)
	}
}

// R1: no bytes and no arguments make a call panic, and errors leave no trace.
func TestReadAnything(t *testing.T) {
	source := rand.New(rand.NewSource(5))
	arguments := []int{-1 << 63, -1, 0, 1, 2, 3, 4, 8, 100, 1<<63 - 1}
	for range 3000 {
		b := make([]byte, source.Intn(30))
		source.Read(b)
		for i := range b {
			if source.Intn(2) == 0 {
				b[i] %= 4
			}
		}
		r := wire.NewReader(string(b))
		for range 10 {
			at := r.At()
			e := readSomething(r, source.Intn(7), arguments[source.Intn(len(arguments))])
			if r.At()+r.Left() != len(b) || r.At() < at || e != api.OK && r.At() != at {
				t.Fatalf("%q: from %d to %d, Left %d, with %d", b, at, r.At(), r.Left(), e)
			}
		}
		l, n := wire.Frames(string(b))
		if again := wire.NewWriter(); n > 0 {
			for _, s := range l {
				again.Frame(s)
			}
			wrote(t, again, string(b[:n]))
		}
		wire.Unhex(string(b))
	}
}

func readSomething(r *wire.Reader, which, argument int) api.Errno {
	var e api.Errno
	switch which {
	case 0:
		_, e = r.Number(argument)
	case 1:
		_, e = r.Row(argument)
	case 2:
		_, e = r.Raw(argument)
	case 3:
		_, e = r.Text(argument)
	case 4:
		_, e = r.Short()
	case 5:
		_, e = r.Signed()
	case 6:
		_, e = r.Frame(argument)
	}
	return e
}
