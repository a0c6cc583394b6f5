package fixed_test

import (
	"slices"
	"testing"

	"herald/fixed"
)

// 2.2
func TestClamp(t *testing.T) {
	for _, c := range []struct{ x, lo, hi, want int64 }{
		{5, 1, 3, 3},
		{4, 1, 3, 3},
		{3, 1, 3, 3},
		{2, 1, 3, 2},
		{1, 1, 3, 1},
		{0, 1, 3, 1},
		{-5, 1, 3, 1},
		{0, 1, -1, 1},  // bounds that cross: below lo, which is asked first
		{5, 1, -1, -1}, // not below lo, above hi
		{1, 1, -1, -1},
		{-9, 1, -1, 1},
		{7, 7, 7, 7},
		{least, -1, 1, -1},
		{most, -1, 1, 1},
		{least, least, most, least},
		{most, least, most, most},
		{0, most, least, most},
		{most, most, least, least},
	} {
		if got := fixed.Clamp(c.x, c.lo, c.hi); got != c.want {
			t.Error(c, got)
		}
	}
}

// 2.2
func TestNarrow(t *testing.T) {
	for x, want := range map[int64]int8{
		0: 0, 1: 1, -1: -1,
		126: 126, 127: 127, 128: 127, 129: 127, 255: 127, 256: 127, most: 127,
		-126: -126, -127: -127, -128: -127, -129: -127, -256: -127, least: -127,
	} {
		if got := fixed.Narrow(x); got != want {
			t.Error(x, got, want)
		}
	}
	for x := int64(-1000); x <= 1000; x++ {
		if got := fixed.Narrow(x); int64(got) != fixed.Clamp(x, -127, 127) {
			t.Error(x, got)
		}
	}
}

// 2.6, R3
func TestArgmax(t *testing.T) {
	for _, c := range []struct {
		l    []int64
		want int
	}{
		{nil, -1},
		{[]int64{}, -1},
		{[]int64{0}, 0},
		{[]int64{least}, 0},
		{[]int64{least, least}, 0},
		{[]int64{3, 9, 9}, 1},
		{[]int64{9, 3, 9}, 0},
		{[]int64{3, 9, 10}, 2},
		{[]int64{-5, -3, -4}, 1},
		{[]int64{least, least + 1}, 1},
		{[]int64{least, most, least, most}, 1},
		{[]int64{0, 0, 1, 1, 0}, 2},
	} {
		if got := fixed.Argmax(c.l); got != c.want {
			t.Error(c, got)
		}
	}
	for n := 1; n < 100; n++ {
		l := some(int64(n), n)
		greatest := slices.Max(l)
		if got := fixed.Argmax(l); got != slices.Index(l, greatest) {
			t.Error(l, got)
		}
	}
}

// R4: neither the list nor what lies behind its end is changed, and nothing of it is kept.
func TestListsStayAsTheyAre(t *testing.T) {
	for _, n := range []int{0, 1, 5, 1000} {
		room := append(some(11, n), 71, 72, 73)
		before := slices.Clone(room)
		sum, ok := fixed.Sum(room[:n])
		place := fixed.Argmax(room[:n])
		if !slices.Equal(room, before) {
			t.Fatal("changed", n)
		}
		for i := range room {
			room[i] = -room[i]/2 + 3
		}
		fixed.Sum(room)
		fixed.Argmax(room)
		if s, o := fixed.Sum(before[:n]); s != sum || o != ok {
			t.Error("Sum", n, s, sum)
		}
		if p := fixed.Argmax(before[:n]); p != place {
			t.Error("Argmax", n, p, place)
		}
	}
}

// R1: no numbers, however great, stop a call.
func TestNothingPanics(t *testing.T) {
	l := []int64{least, least + 1, -2, -1, 0, 1, 2, 62, 63, 64, most - 1, most}
	for _, a := range l {
		fixed.Narrow(a)
		fixed.Sqrt(a)
		fixed.Exp2(a)
		fixed.Log2(a)
		for _, b := range l {
			fixed.Add(a, b)
			fixed.Mul(a, b)
			fixed.Floor(a, b)
			fixed.Near(a, b)
			fixed.Round(a, int(b))
			fixed.Power(a, int(b))
			fixed.Gcd(a, b)
			for _, c := range l {
				fixed.Clamp(a, b, c)
				fixed.MulDiv(a, b, c)
			}
		}
	}
}
