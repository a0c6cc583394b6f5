package single_test

import (
	"math/big"
	"testing"

	"herald/single"
)

// negative tells whether the sign is set.
func negative(bits uint32) bool { return bits&sign != 0 }

// signed is bits with the sign, if neg.
func signed(neg bool, bits uint32) uint32 {
	if neg {
		return bits | sign
	}
	return bits
}

func isZero(bits uint32) bool { return bits&^sign == 0 }

// isAdd tells whether got is a + b, as the chapter has it.
func isAdd(t *testing.T, got, a, b uint32) {
	t.Helper()
	switch {
	case isNone(a) || isNone(b):
		equal(t, "Add of none", got, none)
	case !isFinite(a) && !isFinite(b) && a != b:
		equal(t, "Add of unlike infinite ones", got, none)
	case !isFinite(a):
		equal(t, "Add", got, a)
	case !isFinite(b):
		equal(t, "Add", got, b)
	case a == sign && b == sign:
		equal(t, "Add", got, sign)
	default:
		sum := new(big.Rat).Add(value(a), value(b))
		rounded(t, "Add", got, sum.Sign() < 0, sum)
	}
}

// 3.3
func TestAdd(t *testing.T) {
	pairs(func(a, b uint32) { isAdd(t, single.Add(a, b), a, b) })
	for _, c := range []struct{ a, b, want uint32 }{
		{one, one, 0x40000000},
		{1, sign | 1, 0},
		{sign | 1, 1, 0},
		{0, 0, 0},
		{0, sign, 0},
		{sign, 0, 0},
		{sign, sign, sign},
		{1, 1, 2},
		{sign, 1, 1},
		{sign, sign | 1, sign | 1},
		{normal - 1, 1, normal},
		{normal, sign | 1, normal - 1},
		{0x4b800000, one, 0x4b800000}, // 2^24 + 1: a tie
		{0x4b800001, one, 0x4b800002},
		{sign | 0x4b800000, sign | one, sign | 0x4b800000},
		{greatest, 0x73000000, infinite}, // by 2^103
		{greatest, 0x72ffffff, greatest},
		{sign | greatest, sign | 0x73000000, sign | infinite},
		{greatest, greatest, infinite},
		{greatest, sign | greatest, 0},
		{infinite, infinite, infinite},
		{sign | infinite, sign | infinite, sign | infinite},
		{infinite, sign | infinite, none},
		{infinite, sign | greatest, infinite},
		{infinite + 1, 0, none},
		{0, sign | none, none},
		{sign | none, infinite, none},
	} {
		equal(t, "Add", single.Add(c.a, c.b), c.want)
		equal(t, "Add", single.Add(c.b, c.a), c.want)
	}
}

// 3.3
func TestMul(t *testing.T) {
	pairs(func(a, b uint32) {
		got, neg := single.Mul(a, b), negative(a) != negative(b)
		switch {
		case isNone(a) || isNone(b):
			equal(t, "Mul of none", got, none)
		case isFinite(a) && isFinite(b):
			rounded(t, "Mul", got, neg, new(big.Rat).Mul(value(a), value(b)))
		case isZero(a) || isZero(b):
			equal(t, "Mul of infinite and 0", got, none)
		default:
			equal(t, "Mul of infinite", got, signed(neg, infinite))
		}
	})
	for _, c := range []struct{ a, b, want uint32 }{
		{one, one, one},
		{0x3fc00000, 0x3fc00000, 0x40100000},
		{0, one, 0},
		{sign, one, sign},
		{sign, sign, 0},
		{0, sign | one, sign},
		{1, 1, 0}, // rounded to 0
		{1, sign | 1, sign},
		{1, 0x3f000000, 0}, // half of the least one: a tie
		{3, 0x3f000000, 2},
		{1, 0x3f000001, 1},
		{greatest, 0x40000000, infinite},
		{greatest, sign | 0x40000000, sign | infinite},
		{infinite, 0, none},
		{infinite, sign, none},
		{infinite, 1, infinite},
		{sign | infinite, 1, sign | infinite},
		{sign | infinite, sign | infinite, infinite},
		{infinite + 1, 0, none},
		{sign | none, one, none},
	} {
		equal(t, "Mul", single.Mul(c.a, c.b), c.want)
		equal(t, "Mul", single.Mul(c.b, c.a), c.want)
	}
}

// 3.6
func TestAddAndMulTurned(t *testing.T) {
	pairs(func(a, b uint32) {
		if single.Add(a, b) != single.Add(b, a) || single.Mul(a, b) != single.Mul(b, a) {
			t.Fatalf("%08x %08x", a, b)
		}
	})
}

// 3.3: a product is rounded ahead of the sum that it goes into. (1 + 2^-12)^2 is rounded to 1 + 2^-11; what is cut off is 2^-24.
func TestEachStepIsRounded(t *testing.T) {
	a, b := uint32(0x3f800800), uint32(0x3f801000)
	equal(t, "Mul", single.Mul(a, a), b)
	equal(t, "Add of Mul", single.Add(single.Mul(a, a), b^sign), 0)
	equal(t, "Sub of Mul", single.Sub(single.Mul(a, a), b), 0)
	equal(t, "Sub from Mul", single.Sub(b, single.Mul(a, a)), 0)
}

// 3.7
func TestSub(t *testing.T) {
	pairs(func(a, b uint32) {
		got := single.Sub(a, b)
		isAdd(t, got, a, b^sign)
		if got != single.Add(a, b^sign) {
			t.Fatalf("%08x %08x: %08x", a, b, got)
		}
	})
	for _, c := range []struct{ a, b, want uint32 }{
		{one, one, 0},
		{0, 0, 0},
		{sign, sign, 0},
		{0, sign, 0},
		{sign, 0, sign},
		{0, 1, sign | 1},
		{0x40000000, one, one},
		{one, 0x40000000, sign | one},
		{infinite, infinite, none},
		{infinite, sign | infinite, infinite},
		{one, infinite, sign | infinite},
		{one, none, none},
		{one, sign | none, none},
		{infinite + 1, one, none},
	} {
		equal(t, "Sub", single.Sub(c.a, c.b), c.want)
	}
}

// 3.11
func TestSubOfTheSame(t *testing.T) {
	for _, a := range append(edges(), some(5, 20000)...) {
		want := uint32(0)
		if !isFinite(a) {
			want = none
		}
		equal(t, "Sub", single.Sub(a, a), want)
	}
}

// 3.7
func TestDiv(t *testing.T) {
	pairs(func(a, b uint32) {
		got, neg := single.Div(a, b), negative(a) != negative(b)
		switch {
		case isNone(a) || isNone(b) || isZero(a) && isZero(b) || !isFinite(a) && !isFinite(b):
			equal(t, "Div", got, none)
		case !isFinite(a) || isZero(b):
			equal(t, "Div", got, signed(neg, infinite))
		case !isFinite(b):
			equal(t, "Div by infinite", got, signed(neg, 0))
		default:
			rounded(t, "Div", got, neg, new(big.Rat).Quo(value(a), value(b)))
		}
	})
	for _, c := range []struct{ a, b, want uint32 }{
		{one, 0x40400000, 0x3eaaaaab},
		{sign | one, 0x40400000, sign | 0x3eaaaaab},
		{one, 0, infinite},
		{one, sign, sign | infinite},
		{sign | one, sign, infinite},
		{0, 0, none},
		{0, sign, none},
		{0, one, 0},
		{sign, one, sign},
		{sign, sign | one, 0},
		{one, infinite, 0},
		{sign | one, infinite, sign},
		{0, sign | infinite, sign},
		{infinite, 0, infinite},
		{infinite, sign, sign | infinite},
		{infinite, one, infinite},
		{infinite, infinite, none},
		{infinite, sign | infinite, none},
		{1, 0x40000000, 0}, // half of the least one: a tie
		{3, 0x40000000, 2},
		{greatest, 0x3f000000, infinite},
		{sign | none, one, none},
		{one, infinite + 1, none},
		{none, 0, none},
	} {
		equal(t, "Div", single.Div(c.a, c.b), c.want)
	}
}

// 3.11: a quotient times its divisor need not be what was divided, but is near it.
func TestDivThenMul(t *testing.T) {
	other := 0
	for a := uint32(1); a < 100; a++ {
		for b := uint32(1); b < 100; b++ {
			x, y := single.Near(int(a), 0), single.Near(int(b), 0)
			back := single.Mul(single.Div(x, y), y)
			if back != x {
				other++
			}
			if back+1 < x || back > x+1 {
				t.Fatalf("%d / %d * %d: %08x, from %08x", a, b, b, back, x)
			}
		}
	}
	if other == 0 {
		t.Error("all of them are what was divided")
	}
}

// 3.7
func TestSqrt(t *testing.T) {
	for _, a := range append(edges(), some(6, 50000)...) {
		got := single.Sqrt(a)
		switch {
		case isZero(a) || a == infinite:
			equal(t, "Sqrt", got, a)
		case isNone(a) || negative(a):
			equal(t, "Sqrt", got, none)
		default:
			isRoot(t, got, a)
		}
	}
	for _, c := range []struct{ a, want uint32 }{
		{0, 0},
		{sign, sign},
		{one, one},
		{0x40000000, 0x3fb504f3},
		{0x40800000, 0x40000000},
		{0x3f800001, one},
		{0x3f7fffff, 0x3f7fffff},
		{0x3f7ffffe, 0x3f7fffff},
		{1, 0x1a3504f3},
		{2, 0x1a800000},
		{greatest, 0x5f7fffff},
		{infinite, infinite},
		{sign | infinite, none},
		{sign | one, none},
		{sign | 1, none},
		{none, none},
		{sign | none, none},
		{infinite + 1, none},
	} {
		equal(t, "Sqrt", single.Sqrt(c.a), c.want)
	}
}

// isRoot asks whether a lies between the squares of the numbers half-way to the neighbours of its root. No single is such a square itself.
func isRoot(t *testing.T, got, a uint32) {
	t.Helper()
	if negative(got) || !isFinite(got) || isZero(got) {
		t.Fatalf("Sqrt(%08x): %08x", a, got)
	}
	square := func(x, y uint32) *big.Rat {
		m := new(big.Rat).Add(value(x), value(y))
		return times2(m.Mul(m, m), -2)
	}
	if square(got-1, got).Cmp(value(a)) >= 0 || square(got, got+1).Cmp(value(a)) <= 0 {
		t.Fatalf("Sqrt(%08x): %08x", a, got)
	}
}

// 3.11
func TestSqrtOfSquares(t *testing.T) {
	if a := uint32(1); single.Sqrt(single.Mul(a, a)) == a {
		t.Error("the square of the least one is not 0")
	}
	for n := range 4096 {
		a := single.Near(n, 0)
		equal(t, "Sqrt of Mul", single.Sqrt(single.Mul(a, a)), a)
	}
}
