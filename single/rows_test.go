package single_test

import (
	"math"
	"math/big"
	"math/rand"
	"slices"
	"testing"

	"herald/api"
	"herald/single"
)

// whole is the whole number nearest to a finite single's times 2^scale, of two as near the even one.
func whole(bits uint32, scale int) *big.Int {
	r := times2(value(bits), scale)
	r.Add(r, big.NewRat(1, 2))
	n := new(big.Int).Div(r.Num(), r.Denom()) // the floor
	if r.IsInt() && n.Bit(0) != 0 {
		n.Sub(n, big.NewInt(1))
	}
	return n
}

// at is what At answers to a row at a scale that may be, by the chapter's words.
func at(l []uint32, scale int) ([]int8, api.Errno) {
	row, e := []int8{}, api.OK
	for _, bits := range l {
		if !isFinite(bits) {
			return nil, api.ErrFinite
		}
		n := whole(bits, scale)
		if n.CmpAbs(big.NewInt(127)) > 0 {
			e = api.ErrScale
		}
		row = append(row, int8(n.Int64()))
	}
	if e != api.OK {
		return nil, e
	}
	return row, api.OK
}

// quantise is what Quantise answers, by the chapter's words.
func quantise(l []uint32) ([]int8, int, api.Errno) {
	if !slices.ContainsFunc(l, func(bits uint32) bool { return !isZero(bits) }) {
		return make([]int8, len(l)), 0, api.OK
	}
	for scale := 64; scale >= -64; scale-- {
		row, e := at(l, scale)
		if e == api.OK {
			return row, scale, e
		}
		if e == api.ErrFinite {
			return nil, 0, e
		}
	}
	return nil, 0, api.ErrScale
}

func quantises(t *testing.T, l []uint32, row []int8, scale int, e api.Errno) {
	t.Helper()
	got, s, f := single.Quantise(l)
	if !slices.Equal(got, row) || s != scale || f != e {
		t.Errorf("Quantise(%08x): %v %d %d, not %v %d %d", l, got, s, f, row, scale, e)
	}
}

// 3.4, R3
func TestQuantiseSome(t *testing.T) {
	near := single.Near
	for _, c := range []struct {
		l     []uint32
		row   []int8
		scale int
	}{
		{nil, nil, 0},
		{[]uint32{}, nil, 0},
		{[]uint32{0}, []int8{0}, 0},
		{[]uint32{sign, 0, sign}, []int8{0, 0, 0}, 0},
		{[]uint32{one, 0xbf000000}, []int8{64, -32}, 6},
		{[]uint32{0, one, sign}, []int8{0, 64, 0}, 6},
		{[]uint32{near(127, 0)}, []int8{127}, 0},
		{[]uint32{near(-127, 0)}, []int8{-127}, 0},
		{[]uint32{near(128, 0)}, []int8{64}, -1},
		{[]uint32{near(-128, 0)}, []int8{-64}, -1},
		{[]uint32{near(255, -1)}, []int8{64}, -1}, // 127.5 is as near to 128
		{[]uint32{near(-255, -1)}, []int8{-64}, -1},
		{[]uint32{near(255, -1) - 1}, []int8{127}, 0},
		{[]uint32{sign | near(255, -1) - 1}, []int8{-127}, 0},
		{[]uint32{near(100, 0), near(1, -1), near(3, -1), near(5, -1), near(-1, -1), near(-3, -1), near(-5, -1)}, []int8{100, 0, 2, 2, 0, -2, -2}, 0},
		// the greatest scale, and beyond it
		{[]uint32{near(127, -64)}, []int8{127}, 64},
		{[]uint32{near(255, -65)}, []int8{64}, 63},
		{[]uint32{near(63, -64)}, []int8{63}, 64},
		{[]uint32{near(1, -64)}, []int8{1}, 64},
		{[]uint32{near(3, -66)}, []int8{1}, 64},
		{[]uint32{near(1, -65)}, []int8{0}, 64},
		{[]uint32{near(-3, -65)}, []int8{-2}, 64},
		{[]uint32{1, sign | 1}, []int8{0, 0}, 64},
		{[]uint32{normal}, []int8{0}, 64},
		// the least scale
		{[]uint32{near(127, 64)}, []int8{127}, -64},
		{[]uint32{near(127, 63)}, []int8{127}, -63},
		{[]uint32{near(255, 63) - 1, one, 1}, []int8{127, 0, 0}, -64},
		{[]uint32{near(-127, 64)}, []int8{-127}, -64},
	} {
		quantises(t, c.l, c.row, c.scale, api.OK)
	}
	for _, l := range [][]uint32{{near(255, 63)}, {near(-255, 63)}, {near(1, 71)}, {greatest}, {sign | greatest}, {0, one, greatest}, {greatest, 0, one}} {
		quantises(t, l, nil, 0, api.ErrScale)
	}
	for _, bad := range []uint32{infinite, sign | infinite, none, sign | none, infinite + 1, sign | infinite + 1, sign - 1, math.MaxUint32} {
		for _, l := range [][]uint32{{bad}, {bad, one}, {one, bad}, {0, bad, 0}, {greatest, bad}, {bad, greatest}} {
			quantises(t, l, nil, 0, api.ErrFinite)
		}
	}
}

// rows is rows of many lengths and sizes; one in some is not finite or too great.
func rows(seed int64, n int) [][]uint32 {
	source := rand.New(rand.NewSource(seed))
	l := make([][]uint32, n)
	for i := range l {
		size := source.Intn(170) - 80
		for range 1 + source.Intn(9) {
			mant := source.Intn(1<<9) - 1<<8
			if source.Intn(2) == 0 {
				mant = source.Intn(1<<25) - 1<<24
			}
			l[i] = append(l[i], single.Near(mant, size-source.Intn(12)))
		}
		if source.Intn(20) == 0 {
			l[i] = append(l[i], source.Uint32())
		}
	}
	return l
}

// 3.4
func TestQuantise(t *testing.T) {
	for _, l := range rows(10, 2000) {
		row, scale, e := quantise(l)
		quantises(t, l, row, scale, e)
	}
	for _, bits := range edges() {
		l := []uint32{bits}
		row, scale, e := quantise(l)
		quantises(t, l, row, scale, e)
	}
}

// 3.5
func TestScaled(t *testing.T) {
	for scale := -64; scale <= 64; scale++ {
		for q := -128; q <= 127; q++ {
			got, e := single.Scaled(int8(q), scale)
			if e != api.OK || !isFinite(got) || value(got).Cmp(times2(big.NewRat(int64(q), 1), -scale)) != 0 {
				t.Fatalf("Scaled(%d, %d): %08x %d", q, scale, got, e)
			}
			if q == 0 && got != 0 {
				t.Fatalf("Scaled(0, %d): %08x", scale, got)
			}
		}
	}
	for _, scale := range []int{-65, 65, -66, 66, 128, -128, 1 << 32, math.MinInt, math.MaxInt} {
		for _, q := range []int8{0, 1, -1, 127, -128} {
			if got, e := single.Scaled(q, scale); got != 0 || e != api.ErrScale {
				t.Errorf("Scaled(%d, %d): %08x %d", q, scale, got, e)
			}
		}
	}
	got, e := single.Scaled(-32, 6)
	if got != 3204448256 || e != api.OK {
		t.Error(got, e)
	}
}

// 3.6: what comes back is at most half a step away.
func TestScaledOfQuantise(t *testing.T) {
	for _, l := range append(rows(11, 2000), []uint32{one, 0x3f7fffff, 0x3c000000, 0x3b800000}) {
		row, scale, e := single.Quantise(l)
		if e != api.OK {
			continue
		}
		for i, q := range row {
			back, _ := single.Scaled(q, scale)
			if distance(value(back), value(l[i])).Cmp(times2(big.NewRat(1, 2), -scale)) > 0 {
				t.Fatalf("%08x at %d: %d, %08x", l[i], scale, q, back)
			}
		}
	}
}

// 3.6: a row that Scaled made is quantised to itself.
func TestQuantiseOfScaled(t *testing.T) {
	source := rand.New(rand.NewSource(12))
	for scale := -64; scale <= 64; scale++ {
		for _, great := range []int8{64, 65, 127, -64, -127} {
			row := []int8{great}
			for range 1 + source.Intn(6) {
				row = append(row, int8(source.Intn(255)-127))
			}
			var l []uint32
			for _, q := range row {
				bits, _ := single.Scaled(q, scale)
				l = append(l, bits)
			}
			quantises(t, l, row, scale, api.OK)
		}
	}
}

// 3.9, R3
func TestAtSome(t *testing.T) {
	near := single.Near
	for _, c := range []struct {
		l     []uint32
		scale int
		row   []int8
		e     api.Errno
	}{
		{nil, 0, nil, api.OK},
		{[]uint32{}, 64, nil, api.OK},
		{nil, -64, nil, api.OK},
		{nil, 65, nil, api.ErrScale},
		{nil, -65, nil, api.ErrScale},
		{[]uint32{one}, 6, []int8{64}, api.OK},
		{[]uint32{one}, 7, nil, api.ErrScale},
		{[]uint32{one, sign | one}, 0, []int8{1, -1}, api.OK},
		{[]uint32{0, sign}, 64, []int8{0, 0}, api.OK},
		{[]uint32{near(255, -1)}, 0, nil, api.ErrScale},
		{[]uint32{near(-255, -1)}, 0, nil, api.ErrScale},
		{[]uint32{near(255, -1) - 1, sign | near(255, -1) - 1}, 0, []int8{127, -127}, api.OK},
		{[]uint32{near(-128, 0)}, 0, nil, api.ErrScale},
		{[]uint32{near(1, -1), near(3, -1), near(-5, -1), near(7, -1)}, 0, []int8{0, 2, -2, 4}, api.OK},
		{[]uint32{greatest}, -64, nil, api.ErrScale},
		{[]uint32{near(127, 64)}, -64, []int8{127}, api.OK},
		{[]uint32{near(127, -64), 1}, 64, []int8{127, 0}, api.OK},
		{[]uint32{one}, -64, []int8{0}, api.OK},
		{[]uint32{one}, 64, nil, api.ErrScale},
		// which error comes first
		{[]uint32{none}, 65, nil, api.ErrScale},
		{[]uint32{infinite}, -65, nil, api.ErrScale},
		{[]uint32{none}, 0, nil, api.ErrFinite},
		{[]uint32{greatest, none}, 64, nil, api.ErrFinite},
		{[]uint32{sign | infinite, greatest}, 64, nil, api.ErrFinite},
		{[]uint32{one}, math.MinInt, nil, api.ErrScale},
		{[]uint32{one}, math.MaxInt, nil, api.ErrScale},
		{[]uint32{0}, 1 << 32, nil, api.ErrScale},
	} {
		if row, e := single.At(c.l, c.scale); !slices.Equal(row, c.row) || e != c.e {
			t.Errorf("At(%08x, %d): %v %d, not %v %d", c.l, c.scale, row, e, c.row, c.e)
		}
	}
}

// 3.9, and that Quantise is At of its scale.
func TestAt(t *testing.T) {
	source := rand.New(rand.NewSource(13))
	for _, l := range rows(14, 2000) {
		_, scale, e := single.Quantise(l)
		for _, s := range []int{scale, scale - 1, scale + 1, source.Intn(129) - 64} {
			if s < -64 || s > 64 {
				continue
			}
			want, f := at(l, s)
			if row, g := single.At(l, s); !slices.Equal(row, want) || g != f {
				t.Fatalf("At(%08x, %d): %v %d, not %v %d", l, s, row, g, want, f)
			}
			if e == api.OK && s > scale && f == api.OK && slices.ContainsFunc(l, func(b uint32) bool { return !isZero(b) }) {
				t.Fatalf("%08x: %d is greater than %d", l, s, scale)
			}
		}
	}
}

// R4: neither the row nor what lies behind its end is changed, nothing of it is kept, and what is handed out is new.
func TestRowsStayAsTheyAre(t *testing.T) {
	for _, l := range append(rows(15, 200), nil, []uint32{0, 0, 0}, []uint32{one, none}, []uint32{one, greatest}) {
		room := append(slices.Clone(l), 71, none, 73)
		before := slices.Clone(room)
		row, scale, e := single.Quantise(room[:len(l)])
		at, f := single.At(room[:len(l)], scale)
		again, _, _ := single.Quantise(room[:len(l)])
		if !slices.Equal(room, before) {
			t.Fatalf("%08x: changed", l)
		}
		kept := slices.Clone(row)
		clear(room)
		for _, r := range [][]int8{at, again} {
			r = r[:cap(r)]
			for i := range r {
				r[i] = 99
			}
		}
		if !slices.Equal(row, kept) {
			t.Fatalf("%08x: shared", l)
		}
		if third, s, g := single.Quantise(l); !slices.Equal(third, kept) || s != scale || g != e {
			t.Fatalf("%08x: another answer", l)
		}
		if e == api.OK && f != api.OK {
			t.Fatalf("%08x: At %d", l, f)
		}
	}
}
