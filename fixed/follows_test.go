package fixed_test

import (
	"math/big"
	"slices"
	"testing"

	"herald/api"
	"herald/fixed"
)

// 2.7
func TestNearIsWithinHalf(t *testing.T) {
	pairs(func(x, d int64) {
		q, e := fixed.Near(x, d)
		if e != api.OK {
			return
		}
		far := new(big.Int).Sub(whole(x), new(big.Int).Mul(whole(q), whole(d)))
		if far.Abs(far).Lsh(far, 1).Cmp(whole(d)) > 0 {
			t.Fatal(x, d, q)
		}
		if x == least {
			return
		}
		if minus, e := fixed.Near(-x, d); minus != -q || e != api.OK {
			t.Fatal("not minus", x, d, q, minus, e)
		}
	})
}

// 2.7
func TestRoundIsNear(t *testing.T) {
	for _, x := range append(edges(), some(9, 2000)...) {
		for shift := range 63 {
			q, e := fixed.Round(x, shift)
			if near, nearError := fixed.Near(x, 1<<shift); q != near || e != nearError {
				t.Fatal(x, shift, q, e, near, nearError)
			}
		}
	}
	// 11 / 8 is nearest to 1; but 11 / 2 goes up to 6, and 6 / 4 up to 2.
	once, _ := fixed.Round(11, 3)
	first, _ := fixed.Round(11, 1)
	second, _ := fixed.Round(first, 2)
	if once != 1 || first != 6 || second != 2 {
		t.Error("two shifts", once, first, second)
	}
}

// 2.7, 2.9
func TestRising(t *testing.T) {
	l := append(edges(), some(10, 20000)...)
	slices.Sort(l)
	for _, d := range []int64{1, 2, 3, 1000, 1 << 40, most} {
		for i := 1; i < len(l); i++ {
			a, _, _ := fixed.Floor(l[i-1], d)
			b, _, _ := fixed.Floor(l[i], d)
			if a > b {
				t.Fatal("Floor", l[i-1], l[i], d, a, b)
			}
		}
	}
	for i := 1; i < len(l); i++ {
		if a, b := fixed.Exp2(l[i-1]), fixed.Exp2(l[i]); a > b {
			t.Fatal("Exp2", l[i-1], l[i], a, b)
		}
		a, _ := fixed.Sqrt(max(l[i-1], 0))
		if b, _ := fixed.Sqrt(max(l[i], 0)); a > b {
			t.Fatal("Sqrt", l[i-1], l[i], a, b)
		}
		a, _ = fixed.Log2(max(l[i-1], 1))
		if b, _ := fixed.Log2(max(l[i], 1)); a > b {
			t.Fatal("Log2", l[i-1], l[i], a, b)
		}
	}
	last := int64(0)
	for x := int64(1); x < 300000; x++ {
		n, _ := fixed.Log2(x)
		if n < last {
			t.Fatal("Log2", x, last, n)
		}
		last = n
	}
}

// 2.9
func TestMulDivByItself(t *testing.T) {
	pairs(func(x, d int64) {
		if d < 1 {
			return
		}
		if n, e := fixed.MulDiv(x, d, d); n != x || e != api.OK {
			t.Fatal(x, d, n, e)
		}
	})
}

// 2.9
func TestGcdDivides(t *testing.T) {
	pairs(func(a, b int64) {
		g, ok := fixed.Gcd(a, b)
		if !ok {
			return
		}
		if g == 0 {
			if a != 0 || b != 0 {
				t.Fatal("0", a, b)
			}
			return
		}
		if g < 0 || a%g != 0 || b%g != 0 {
			t.Fatal(a, b, g)
		}
		if back, ok := fixed.Gcd(b, a); back != g || !ok {
			t.Fatal("turned", a, b, g, back, ok)
		}
		less := new(big.Int).Sub(whole(a), whole(b))
		if !less.IsInt64() {
			return
		}
		if n, ok := fixed.Gcd(b, less.Int64()); n != g || !ok {
			t.Fatal("step", a, b, g, n, ok)
		}
	})
}
