package nat_test

import (
	"math"
	"math/big"
	"slices"
	"testing"

	"herald/api"
	"herald/nat"
)

// 4.3, 4.4.
func TestAdd(t *testing.T) {
	pairs(t, func(a, b *big.Int, x, y nat.Nat) {
		got, e := x.Add(y)
		isOrBig(t, "Add", got, e, new(big.Int).Add(a, b))
	})
}

// 4.3, 4.4.
func TestSub(t *testing.T) {
	pairs(t, func(a, b *big.Int, x, y nat.Nat) {
		got, e := x.Sub(y)
		if a.Cmp(b) < 0 {
			refused(t, "Sub", e, api.ErrBelow, got)
			return
		}
		isOrBig(t, "Sub", got, e, new(big.Int).Sub(a, b))
	})
}

// 4.3, 4.4.
func TestMul(t *testing.T) {
	pairs(t, func(a, b *big.Int, x, y nat.Nat) {
		got, e := x.Mul(y)
		isOrBig(t, "Mul", got, e, new(big.Int).Mul(a, b))
	})
}

// 4.3: just MaxBits binary digits, and one more, or 1 more than the greatest.
func TestAtTheLimit(t *testing.T) {
	most, half := of(t, greatest()), of(t, power2(api.MaxBits-1, 0))
	one, zero := ofInt(t, 1), nat.Nat{}
	x, e := most.Add(zero)
	isOrBig(t, "Add", x, e, greatest())
	x, e = one.Add(most)
	refused(t, "Add", e, api.ErrBig, x)
	x, e = half.Add(half)
	refused(t, "Add", e, api.ErrBig, x)
	less, _ := half.Sub(one)
	x, e = half.Add(less)
	isOrBig(t, "Add", x, e, greatest())

	x, e = most.Mul(one)
	isOrBig(t, "Mul", x, e, greatest())
	x, e = half.Mul(ofInt(t, 2))
	refused(t, "Mul", e, api.ErrBig, x)
	x, e = zero.Mul(most)
	isOrBig(t, "Mul", x, e, small(0))
	// (2^32768 - 1) (2^32768 + 1) is the greatest number.
	x, e = of(t, power2(32768, -1)).Mul(of(t, power2(32768, 1)))
	isOrBig(t, "Mul", x, e, greatest())
	x, e = of(t, power2(32768, 0)).Mul(of(t, power2(32768, 0)))
	refused(t, "Mul", e, api.ErrBig, x)
}

// shifts is places to move by: none, about the ends of words, about what may be, and those that a sum with would wrap.
func shifts() []int {
	return []int{0, 1, 2, 31, 32, 63, 64, 65, 127, 128, 129, 32767, 32768, 65471, 65472, 65534, 65535, 65536, 65537, 1 << 20, 1 << 32, math.MaxInt - 65536, math.MaxInt - 1, math.MaxInt}
}

func below0() []int { return []int{-1, -2, -64, -65536, math.MinInt + 1, math.MinInt} }

// 4.3, 4.4.
func TestUp(t *testing.T) {
	for _, a := range slices.Concat(edges(), patterned(11, 100, 6)) {
		x := of(t, a)
		for _, n := range shifts() {
			got, e := x.Up(n)
			switch {
			case a.Sign() == 0:
				isOrBig(t, "Up of 0", got, e, a)
			case n > api.MaxBits:
				refused(t, "Up", e, api.ErrBig, got)
			default:
				isOrBig(t, "Up", got, e, new(big.Int).Lsh(a, uint(n)))
			}
		}
		for _, n := range below0() {
			got, e := x.Up(n)
			refused(t, "Up", e, api.ErrArg, got)
		}
	}
}

// 4.3: to just MaxBits binary digits and to one more, from each number of them.
func TestUpToTheLimit(t *testing.T) {
	for bits := uint(1); bits <= api.MaxBits; bits += 1023 {
		a := power2(bits, -1)
		x := of(t, a)
		up := api.MaxBits - int(bits)
		got, e := x.Up(up)
		isOrBig(t, "Up", got, e, new(big.Int).Lsh(a, uint(up)))
		got, e = x.Up(up + 1)
		refused(t, "Up", e, api.ErrBig, got)
	}
}

// 4.3, 4.4.
func TestDown(t *testing.T) {
	for _, a := range slices.Concat(edges(), patterned(12, 100, 6)) {
		x := of(t, a)
		for _, n := range slices.Concat(shifts(), []int{max(a.BitLen()-1, 0), a.BitLen(), a.BitLen() + 1}) {
			got, e := x.Down(n)
			isOrBig(t, "Down", got, e, new(big.Int).Rsh(a, uint(min(n, api.MaxBits))))
		}
		for _, n := range below0() {
			got, e := x.Down(n)
			refused(t, "Down", e, api.ErrArg, got)
		}
	}
}

// divIs asks Div for a quotient and what is left, or for ErrZero.
func divIs(t *testing.T, a, b *big.Int, x, y nat.Nat) {
	t.Helper()
	q, left, e := x.Div(y)
	if b.Sign() == 0 {
		refused(t, "Div", e, api.ErrZero, q, left)
		return
	}
	wantQ, wantLeft := new(big.Int).QuoRem(a, b, new(big.Int))
	if e != api.OK {
		t.Fatalf("Div %s, %s: error %d", brief(a), brief(b), e)
	}
	is(t, "quotient of "+brief(a)+" over "+brief(b), q, wantQ)
	is(t, "left of "+brief(a)+" over "+brief(b), left, wantLeft)
}

// 4.3, 4.4.
func TestDiv(t *testing.T) {
	pairs(t, func(a, b *big.Int, x, y nat.Nat) { divIs(t, a, b, x, y) })
}

// 4.3: just at a multiple, and 1 beside it, where a word of the quotient is easily guessed too great.
func TestDivAboutMultiples(t *testing.T) {
	bs, qs := patterned(13, 1000, 5), patterned(14, 1000, 5)
	for i, b := range bs {
		y, product := of(t, b), new(big.Int).Mul(b, qs[i])
		for beside := int64(-1); beside <= 1; beside++ {
			if a := new(big.Int).Add(product, small(beside)); a.Sign() >= 0 {
				divIs(t, a, b, of(t, a), y)
			}
		}
	}
}

// powerIs asks Power for a number to the n-th, or for ErrBig.
func powerIs(t *testing.T, a *big.Int, base nat.Nat, n int) {
	t.Helper()
	x, e := base.Power(n)
	if a.BitLen() > 1 && (n > api.MaxBits || n*(a.BitLen()-1) > api.MaxBits) {
		refused(t, "Power", e, api.ErrBig, x)
		return
	}
	if a.BitLen() <= 1 {
		n = min(n, 2)
	}
	isOrBig(t, "Power", x, e, new(big.Int).Exp(a, small(int64(n)), nil))
}

// 4.3, 4.4: of 0 and 1 with any exponent, too.
func TestPower(t *testing.T) {
	for _, a := range slices.Concat(edges(), patterned(15, 100, 6)) {
		base := of(t, a)
		for n := range 34 {
			powerIs(t, a, base, n)
		}
		for _, n := range slices.Concat(shifts(), []int{1 << 62, 1<<62 + 1, 1 << 47, 1 << 48, 1 << 49}) {
			powerIs(t, a, base, n)
		}
		for _, n := range below0() {
			x, e := base.Power(n)
			refused(t, "Power", e, api.ErrArg, x)
		}
	}
}

// 4.3: the greatest exponent that may be, and one more.
func TestPowerAtTheLimit(t *testing.T) {
	for _, a := range []int64{2, 3, 4, 5, 7, 8, 10, 255, 256, 257, 65535, 65536, 65537, 1<<32 - 1, 1 << 32, math.MaxInt64} {
		// The greatest power that has no more binary digits than MaxBits.
		n, p := 0, small(1)
		for {
			next := new(big.Int).Mul(p, small(a))
			if next.BitLen() > api.MaxBits {
				break
			}
			n, p = n+1, next
		}
		x, e := ofInt(t, a).Power(n)
		isOrBig(t, "Power", x, e, p)
		x, e = ofInt(t, a).Power(n + 1)
		refused(t, "Power", e, api.ErrBig, x)
	}
	x, e := of(t, power2(32768, 0)).Power(2)
	refused(t, "Power", e, api.ErrBig, x)
	x, e = of(t, power2(32768, -1)).Power(2)
	isOrBig(t, "Power", x, e, new(big.Int).Mul(power2(32768, -1), power2(32768, -1)))
}
