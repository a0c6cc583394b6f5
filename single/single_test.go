package single_test

import (
	"math"
	"math/big"
	"math/rand"
	"testing"

	"herald/api"
	"herald/single"
)

// 3.1
func TestPartsOfSome(t *testing.T) {
	for bits, want := range map[uint32]api.Single{
		0:                   {},
		sign:                {Neg: true},
		1:                   {Mant: 1, Exp: -149},
		sign | 1:            {Neg: true, Mant: 1, Exp: -149},
		2:                   {Mant: 1, Exp: -148},
		3:                   {Mant: 3, Exp: -149},
		normal - 1:          {Mant: 1<<23 - 1, Exp: -149},
		normal:              {Mant: 1, Exp: -126},
		normal + 1:          {Mant: 1<<23 + 1, Exp: -149},
		2 * normal:          {Mant: 1, Exp: -125},
		2*normal + 1:        {Mant: 1<<23 + 1, Exp: -148},
		one:                 {Mant: 1},
		sign | one:          {Neg: true, Mant: 1},
		0x3fc00000:          {Mant: 3, Exp: -1},
		0x42c80000:          {Mant: 25, Exp: 2},
		0x4b800000:          {Mant: 1, Exp: 24},
		greatest:            {Mant: 1<<24 - 1, Exp: 104},
		sign | greatest:     {Neg: true, Mant: 1<<24 - 1, Exp: 104},
		infinite:            {Kind: api.SingleInfinite},
		sign | infinite:     {Kind: api.SingleInfinite, Neg: true},
		infinite + 1:        {Kind: api.SingleNone},
		none:                {Kind: api.SingleNone},
		sign | none:         {Kind: api.SingleNone},
		sign - 1:            {Kind: api.SingleNone},
		math.MaxUint32:      {Kind: api.SingleNone},
		sign + infinite + 1: {Kind: api.SingleNone},
	} {
		if got := single.Parts(bits); got != want {
			t.Errorf("%08x: %v, not %v", bits, got, want)
		}
	}
}

// 3.1, 3.6: the parts are the number, and Near of them is the single.
func TestParts(t *testing.T) {
	for _, bits := range append(edges(), some(1, 50000)...) {
		p := single.Parts(bits)
		if !isFinite(bits) {
			want := api.Single{Kind: api.SingleNone}
			if !isNone(bits) {
				want = api.Single{Kind: api.SingleInfinite, Neg: bits&sign != 0}
			}
			if p != want {
				t.Fatalf("%08x: %v", bits, p)
			}
			continue
		}
		if p.Kind != api.SingleFinite || p.Neg != (bits&sign != 0) || p.Mant < 0 || p.Mant == 0 && p.Exp != 0 || p.Mant != 0 && p.Mant%2 == 0 {
			t.Fatalf("%08x: %v", bits, p)
		}
		r := times2(big.NewRat(int64(p.Mant), 1), p.Exp)
		if r.Cmp(singles.value(bits&^sign)) != 0 {
			t.Fatalf("%08x: %v", bits, p)
		}
		mant, want := p.Mant, bits
		if p.Neg {
			mant = -mant
		}
		if bits == sign {
			want = 0
		}
		if got := single.Near(mant, p.Exp); got != want {
			t.Fatalf("Near of the parts of %08x: %08x", bits, got)
		}
	}
}

// 3.1
func TestNearOfSome(t *testing.T) {
	for _, c := range []struct {
		mant, exp int
		want      uint32
	}{
		{0, 0, 0},
		{1, 0, one},
		{-1, 0, sign | one},
		{3, -1, 0x3fc00000},
		{16777215, 0, 0x4b7fffff},
		{16777216, 0, 0x4b800000},
		{16777217, 0, 0x4b800000}, // ties: the even one
		{16777218, 0, 0x4b800001},
		{16777219, 0, 0x4b800002},
		{-16777217, 0, sign | 0x4b800000},
		{-16777219, 0, sign | 0x4b800002},
		{1, 127, 0x7f000000},
		{1, 128, infinite},
		{-1, 128, sign | infinite},
		{1<<24 - 1, 104, greatest},
		{1<<25 - 2, 103, greatest},
		{1<<25 - 1, 103, infinite}, // 2^128 - 2^103
		{1<<62 - 1<<37 - 1, 66, greatest},
		{1<<62 - 1<<37, 66, infinite},
		{-(1<<62 - 1<<37 - 1), 66, sign | greatest},
		{-(1<<62 - 1<<37), 66, sign | infinite},
		{1, -126, normal},
		{1, -127, normal / 2},
		{1, -149, 1},
		{1, -150, 0},
		{-1, -150, sign},
		{3, -151, 1},
		{-3, -151, sign | 1},
		{3, -150, 2}, // between 1 and 2, as near to either
		{5, -150, 2},
		{1<<61 + 1, -211, 1},
		{1 << 61, -211, 0},
		{1<<24 - 1, -150, normal}, // rounding carries into e 1
		{1<<24 - 3, -150, normal - 2},
	} {
		equal(t, "Near", single.Near(c.mant, c.exp), c.want)
	}
}

// 3.1: the least and the greatest ints, in either place.
func TestNearOfTheGreatest(t *testing.T) {
	const least, most = math.MinInt, math.MaxInt
	for _, exp := range []int{least, least + 1, least + 63, most - 64, most - 63, most - 1, most, 1 << 40, -1 << 40, 1 << 31, -1 << 31, 1 << 32, -1 << 32, 2000, -2000, 1023, 1024, 1025, -1023, -1024, -1025} {
		equal(t, "of 0", single.Near(0, exp), 0)
		for _, mant := range []int{1, 3, 1 << 24, most, most - 1, least, least + 1, -1, -3} {
			want := uint32(0)
			if exp > 0 {
				want = infinite
			}
			if mant < 0 {
				want |= sign
			}
			if got := single.Near(mant, exp); got != want {
				t.Errorf("Near(%d, %d): %08x, not %08x", mant, exp, got, want)
			}
		}
	}
	for exp := -300; exp < 300; exp++ {
		equal(t, "of 0", single.Near(0, exp), 0)
		for _, mant := range []int{least, least + 1, -most + 1, most, most - 1, most - 1<<38, most - 1<<38 - 1, most - 1<<38 + 1, 1 << 62, 1, -1} {
			near(t, mant, exp)
		}
	}
	equal(t, "least", single.Near(least, 0), sign|0x5f000000)
	equal(t, "most", single.Near(most, 0), 0x5f000000)
	equal(t, "least", single.Near(least, -212), sign|1)
	equal(t, "least", single.Near(least, -213), sign)
	equal(t, "least", single.Near(least+1<<10, 65), sign|infinite)
}

// 3.1: numbers of all lengths, at the exponents where they are rounded.
func TestNear(t *testing.T) {
	source := rand.New(rand.NewSource(2))
	for range 20000 {
		mant := int(source.Uint64()) >> source.Intn(64)
		if mant != 0 {
			near(t, mant, source.Intn(400)-240)
		}
	}
	// Just between two singles, and one to either side of that.
	for _, bits := range edges() {
		p := single.Parts(bits)
		if !isFinite(bits) || p.Mant == 0 {
			continue
		}
		for _, unit := range []int{24, 25, 30} {
			mant := int(bits&(normal-1)|normal)<<unit + 1<<(unit-1)
			exp := int(bits&^sign>>23) - 150 - unit
			for d := -1; d <= 1; d++ {
				near(t, mant+d, exp)
				near(t, -mant+d, exp)
			}
		}
	}
}

// 3.2
func TestCompareSome(t *testing.T) {
	for _, c := range []struct {
		a, b uint32
		want int
	}{
		{0, sign, 0},
		{sign, 0, 0},
		{sign, sign, 0},
		{0, 1, -1},
		{sign, 1, -1},
		{sign | 1, 0, -1},
		{sign | 1, sign, -1},
		{1, 2, -1},
		{sign | 2, sign | 1, -1},
		{normal - 1, normal, -1},
		{one, 0x40000000, -1},
		{sign | one, one, -1},
		{sign | 0x40000000, sign | one, -1},
		{greatest, infinite, -1},
		{sign | infinite, sign | greatest, -1},
		{sign | infinite, infinite, -1},
		{sign | infinite, 0, -1},
		{infinite, infinite, 0},
		{sign | infinite, sign | infinite, 0},
		{one, one, 0},
	} {
		if got, ok := single.Compare(c.a, c.b); got != c.want || !ok {
			t.Errorf("%08x %08x: %d %v", c.a, c.b, got, ok)
		}
		if got, ok := single.Compare(c.b, c.a); got != -c.want || !ok {
			t.Errorf("%08x %08x: %d %v", c.b, c.a, got, ok)
		}
	}
}

// order is a number in the order of singles' numbers.
func order(bits uint32) int {
	if bits&sign != 0 {
		return -int(bits &^ sign)
	}
	return int(bits)
}

// 3.2, 3.6
func TestCompare(t *testing.T) {
	pairs(func(a, b uint32) {
		got, ok := single.Compare(a, b)
		if isNone(a) || isNone(b) {
			if got != 0 || ok {
				t.Fatalf("%08x %08x: %d %v", a, b, got, ok)
			}
			return
		}
		want := 0
		switch {
		case order(a) < order(b):
			want = -1
		case order(a) > order(b):
			want = 1
		}
		if got != want || !ok {
			t.Fatalf("%08x %08x: %d %v", a, b, got, ok)
		}
		if isFinite(a) && isFinite(b) && value(a).Cmp(value(b)) != want {
			t.Fatalf("%08x %08x: the numbers say otherwise than %d", a, b, want)
		}
	})
}
