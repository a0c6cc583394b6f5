package wire_test

import (
	"math"
	"testing"

	"herald/api"
	"herald/wire"
)

// 1.5
func TestNilWriter(t *testing.T) {
	var w *wire.Writer
	for _, n := range []int{math.MinInt, -1, 0, 1, 8, math.MaxInt} {
		for _, bytes := range []int{-1, 0, 1, 2, 3, 4, 8} {
			if e := w.Number(n, bytes); e != api.ErrArg {
				t.Errorf("Number(%d, %d): %d", n, bytes, e)
			}
		}
		if e := w.Short(n); e != api.ErrArg {
			t.Errorf("Short(%d): %d", n, e)
		}
		w.Signed(n)
	}
	for _, s := range []string{"", "a"} {
		if e := w.Text(s); e != api.ErrArg {
			t.Errorf("Text(%q): %d", s, e)
		}
		if e := w.Frame(s); e != api.ErrArg {
			t.Errorf("Frame(%q): %d", s, e)
		}
		w.Raw(s)
	}
	if e := w.Text(longText(1 << 32)); e != api.ErrArg {
		t.Errorf("Text of 2^32 bytes: %d", e)
	}
	if e := w.Frame(longText(1 << 31)); e != api.ErrArg {
		t.Errorf("Frame of 2^31 bytes: %d", e)
	}
	w.Row(nil)
	w.Row([]int8{1})
	wrote(t, w, "")
}

// 1.5
func TestNilReader(t *testing.T) {
	var r *wire.Reader
	for _, n := range []int{math.MinInt, -1, 0, 1, 2, 8, math.MaxInt} {
		if x, e := r.Number(n); x != 0 || e != api.ErrArg {
			t.Errorf("Number(%d): %d, %d", n, x, e)
		}
		if l, e := r.Row(n); len(l) != 0 || e != api.ErrArg {
			t.Errorf("Row(%d): %v, %d", n, l, e)
		}
		if s, e := r.Raw(n); s != "" || e != api.ErrArg {
			t.Errorf("Raw(%d): %q, %d", n, s, e)
		}
		if s, e := r.Text(n); s != "" || e != api.ErrArg {
			t.Errorf("Text(%d): %q, %d", n, s, e)
		}
		if s, e := r.Frame(n); s != "" || e != api.ErrArg {
			t.Errorf("Frame(%d): %q, %d", n, s, e)
		}
	}
	if x, e := r.Short(); x != 0 || e != api.ErrArg {
		t.Errorf("Short: %d, %d", x, e)
	}
	if x, e := r.Signed(); x != 0 || e != api.ErrArg {
		t.Errorf("Signed: %d, %d", x, e)
	}
	stands(t, r, 0, 0)
}
