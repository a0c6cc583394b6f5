package norm_test

import (
	"slices"
	"testing"

	"herald/api"
	"herald/norm"
)

// rootIn is the Root of a row that may be.
func rootIn(t *testing.T, l []int64) int64 {
	t.Helper()
	return okay[int64](t, "Root")(norm.Root(l))
}

// 9.4: no number over its root is above 16, as a gain of 1 shows it, and none of 64 times it above 1024.
func TestNoPartIsAbove1024(t *testing.T) {
	someRows(7, func(l []int64, _ *spread) {
		r := rootIn(t, l)
		for _, x := range l {
			if part := 64 * x / r; part > 1024 || part < -1024 {
				t.Fatal("64 times over the root", l, r, part)
			}
		}
		for _, n := range okay[[]int8](t, "Row")(norm.Row(l, filled[int8](len(l), 1))) {
			if n > 16 || n < -16 {
				t.Fatal("over the root", l, n)
			}
		}
	})
}

// 9.4: one number among as many zeros as may be lies the furthest above its root.
func TestTheFurthestAboveTheRoot(t *testing.T) {
	l := make([]int64, api.MaxDim)
	for x := range int64(5000) {
		l[7] = x
		if part := 64 * x / rootIn(t, l); part > 960 || x == 15 && part != 960 {
			t.Error("64 times over the root", x, part)
		}
	}
}

// 9.4
func TestRootIsWithinTheRow(t *testing.T) {
	someRows(8, func(l []int64, _ *spread) {
		r := rootIn(t, l)
		size, _, _ := norm.Largest(l)
		if r < 1 || r > max(1, size) {
			t.Fatal("Root", l, r, size)
		}
	})
}

// negated is each number with its other sign.
func negated[T int8 | int64](l []T) []T {
	out := make([]T, len(l))
	for i, x := range l {
		out[i] = -x
	}
	return out
}

// 9.4
func TestRowNegated(t *testing.T) {
	someRows(9, func(l []int64, s *spread) {
		gain := s.gains(len(l))
		row := okay[[]int8](t, "Row")(norm.Row(l, gain))
		if slices.Contains(row, -128) {
			t.Fatal("a number that has no other sign", l, gain)
		}
		is(t, "negated", negated(row))(norm.Row(negated(l), gain))
	})
}

// 9.6
func TestCenteredSum(t *testing.T) {
	someRows(10, func(l []int64, _ *spread) {
		centered, mean, e := norm.Center(l)
		var sum, was int64
		for i, x := range centered {
			sum, was = sum+x, was+l[i]
		}
		if n := int64(len(l)); e != api.OK || sum < 0 || sum >= n || mean*n+sum != was {
			t.Fatal("Center", l, mean, sum, e)
		}
	})
}

// 9.6: where neither the row nor the moved one is refused.
func TestLayerOfAMovedRow(t *testing.T) {
	same := 0
	someRows(11, func(l []int64, s *spread) {
		gain, bias := s.gains(len(l)), s.gains(len(l))
		row, e := norm.Layer(l, gain, bias)
		for _, by := range []int64{1, -1, 64, -1001, 1 << 20, -1 << 27, most, -most} {
			moved := make([]int64, len(l))
			for i, x := range l {
				moved[i] = x + by
			}
			other, f := norm.Layer(moved, gain, bias)
			if e != api.OK || f != api.OK {
				continue
			}
			same++
			is(t, "moved", row)(other, f)
		}
	})
	if same < 10000 {
		t.Error("too few rows that may be moved", same)
	}
}

// 9.5 by 9.2: without a bias, Layer is Row of the centred row.
func TestLayerIsRowOfTheCentered(t *testing.T) {
	someRows(12, func(l []int64, s *spread) {
		gain := s.gains(len(l))
		centered, _, _ := norm.Center(l)
		want, e := norm.Row(centered, gain)
		row, f := norm.Layer(l, gain, make([]int8, len(l)))
		if !slices.Equal(row, want) || f != e {
			t.Fatal("Layer", l, row, f, want, e)
		}
	})
}
