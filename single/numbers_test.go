package single_test

import (
	"math/big"
	"math/rand"
	"testing"

	"herald/single"
)

const (
	sign     = 1 << 31
	infinite = 0x7f800000
	none     = 0x7fc00000
	greatest = 0x7f7fffff // the greatest finite one
	normal   = 0x00800000 // the least one with e 1
	one      = 0x3f800000
)

// kind is a format by its bits: how many the exponent has, and the fraction.
type kind struct{ exponent, fraction int }

var (
	singles = kind{8, 23}
	halves  = kind{5, 10}
	brains  = kind{8, 7}
)

func (k kind) infinite() uint32 { return (1<<k.exponent - 1) << k.fraction }

func (k kind) sign() uint32 { return 1 << (k.exponent + k.fraction) }

// value is the number of bits without their sign, as the chapter's Words have it; of infinite ones the number that would stand there if they were finite.
func (k kind) value(size uint32) *big.Rat {
	e, f := int(size>>k.fraction), int64(size&(1<<k.fraction-1))
	if e > 0 {
		f += 1 << k.fraction
	} else {
		e = 1
	}
	return times2(big.NewRat(f, 1), e-1<<(k.exponent-1)+1-k.fraction)
}

// isNearest tells whether bits are those of the number of this kind nearest to r; neg is the sign that they have to have.
func (k kind) isNearest(bits uint32, neg bool, r *big.Rat) bool {
	size := bits &^ k.sign()
	if size > k.infinite() || (bits != size) != neg {
		return false
	}
	want := new(big.Rat).Abs(r)
	far := distance(k.value(size), want)
	for _, other := range []uint32{size - 1, size + 1} {
		if other > k.infinite() {
			continue // below 0, or beyond infinite ones
		}
		switch far.Cmp(distance(k.value(other), want)) {
		case 1:
			return false
		case 0:
			if size&1 != 0 {
				return false
			}
		}
	}
	return true
}

func distance(a, b *big.Rat) *big.Rat {
	d := new(big.Rat).Sub(a, b)
	return d.Abs(d)
}

// times2 is r * 2^n.
func times2(r *big.Rat, n int) *big.Rat {
	power := new(big.Int).Lsh(big.NewInt(1), uint(max(n, -n)))
	if n < 0 {
		return new(big.Rat).Mul(r, new(big.Rat).SetFrac(big.NewInt(1), power))
	}
	return new(big.Rat).Mul(r, new(big.Rat).SetInt(power))
}

// value is the number of a finite single.
func value(bits uint32) *big.Rat {
	v := singles.value(bits &^ sign)
	if bits&sign != 0 {
		v.Neg(v)
	}
	return v
}

func isFinite(bits uint32) bool { return bits&^sign < infinite }
func isNone(bits uint32) bool   { return bits&^sign > infinite }

// rounded asks whether got is r, rounded; neg is the sign that it has to have, where it is 0, too.
func rounded(t *testing.T, what string, got uint32, neg bool, r *big.Rat) {
	t.Helper()
	if !singles.isNearest(got, neg, r) {
		t.Fatalf("%s: %08x is not nearest to %s (below 0: %v)", what, got, r.FloatString(60), neg)
	}
}

// some is n singles of all kinds, the same ones each time.
func some(seed int64, n int) []uint32 {
	source := rand.New(rand.NewSource(seed))
	l := make([]uint32, n)
	for i := range l {
		l[i] = source.Uint32()
	}
	return l
}

// edges is zeros, the least and the greatest ones, those about each step of the exponent, infinite ones and nones, of either sign.
func edges() []uint32 {
	var l []uint32
	for e := range uint32(256) {
		for _, f := range []uint32{0, 1, 2, 3, 1<<22 - 1, 1 << 22, 1<<22 + 1, 1<<23 - 2, 1<<23 - 1} {
			l = append(l, e<<23|f, sign|e<<23|f)
		}
	}
	return l
}

// few is some of the edges, so few that all pairs of them can be tried.
func few() []uint32 {
	var l []uint32
	for _, e := range []uint32{0, 1, 2, 23, 24, 63, 64, 103, 126, 127, 128, 150, 151, 190, 191, 230, 253, 254, 255} {
		for _, f := range []uint32{0, 1, 1<<22 - 1, 1 << 22, 1<<23 - 1} {
			l = append(l, e<<23|f, sign|e<<23|f)
		}
	}
	return l
}

// pairs calls back with all pairs of a few edges, and with others of which many are near each other in size.
func pairs(f func(a, b uint32)) {
	l := few()
	for _, a := range l {
		for _, b := range l {
			f(a, b)
		}
	}
	source := rand.New(rand.NewSource(3))
	for _, a := range some(4, 10000) {
		f(a, source.Uint32())
		f(a, a^sign^uint32(source.Intn(1<<26)))
		f(a, a+uint32(source.Intn(1<<25)))
	}
}

func equal(t *testing.T, what string, got, want uint32) {
	t.Helper()
	if got != want {
		t.Errorf("%s: %08x, not %08x", what, got, want)
	}
}

// near holds Near against the Words.
func near(t *testing.T, mant, exp int) {
	t.Helper()
	got := single.Near(mant, exp)
	r := times2(new(big.Rat).SetInt64(int64(mant)), exp)
	if !singles.isNearest(got, mant < 0, r) {
		t.Fatalf("Near(%d, %d): %08x", mant, exp, got)
	}
}
