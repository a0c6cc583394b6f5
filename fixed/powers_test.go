package fixed_test

import (
	"math"
	"math/big"
	"testing"

	"herald/api"
	"herald/fixed"
)

// 2.4
func TestSqrt(t *testing.T) {
	for _, c := range []struct{ x, want int64 }{
		{0, 0},
		{1, 1},
		{2, 1},
		{3, 1},
		{4, 2},
		{15, 3},
		{16, 4},
		{most, 3037000499},
		{9223372030926249000, 3037000498},
		{9223372030926249001, 3037000499},
		{9223372030926249002, 3037000499},
		{1 << 62, 1 << 31},
		{1<<62 - 1, 1<<31 - 1},
	} {
		if r, e := fixed.Sqrt(c.x); r != c.want || e != api.OK {
			t.Error(c, r, e)
		}
	}
	for _, x := range []int64{-1, -4, least, -most} {
		if r, e := fixed.Sqrt(x); r != 0 || e != api.ErrNegative {
			t.Error(x, r, e)
		}
	}
	for _, x := range append(edges(), some(4, 100000)...) {
		if x < 0 {
			continue
		}
		if r, e := fixed.Sqrt(x); r != new(big.Int).Sqrt(whole(x)).Int64() || e != api.OK {
			t.Fatal(x, r, e)
		}
	}
}

// 2.4, 2.7: at squares, one below and one above them.
func TestSqrtOfSquares(t *testing.T) {
	check := func(x, want int64) {
		if r, e := fixed.Sqrt(x); r != want || e != api.OK {
			t.Fatal(x, r, e, "not", want)
		}
	}
	for _, r := range append(some(5, 100000), 1, 2, 3, 65535, 65536, 1<<31-1, 1<<31, 3037000498, 3037000499) {
		if r < 1 || r > 3037000499 {
			continue
		}
		check(r*r, r)
		check(r*r-1, r-1)
		if r > 1 {
			check(r*r+1, r)
		}
	}
}

// exp2 goes by the chapter's words, with numbers of any size.
func exp2(x int64) int64 {
	if x > 0 {
		x = 0
	}
	unit := big.NewInt(65536)
	n := new(big.Int).Neg(floor(whole(x), unit))
	t := new(big.Int).Add(whole(x), new(big.Int).Mul(unit, n))
	step := func(c int64, ahead *big.Int) *big.Int {
		return new(big.Int).Add(whole(c), floor(new(big.Int).Mul(ahead, t), unit))
	}
	a := step(241400000, big.NewInt(84941200))
	b := step(747400624, a)
	c := step(1073741824, b)
	if n.Cmp(big.NewInt(31)) >= 0 {
		return 0
	}
	return floor(c, new(big.Int).Lsh(big.NewInt(1), uint(n.Int64()))).Int64()
}

// 2.5
func TestExp2(t *testing.T) {
	for _, c := range []struct{ x, want int64 }{
		{0, 1073741824},
		{1, 1073741824},
		{5, 1073741824},
		{65536, 1073741824},
		{most, 1073741824},
		{-32768, 759204893},
		{-65536, 536870912},
		{-2 * 65536, 268435456},
		{-29 * 65536, 2},
		{-30*65536 + 1, 1},
		{-30 * 65536, 1},
		{-30*65536 - 1, 0},
		{-31*65536 + 1, 0},
		{-2031616, 0},
		{-31*65536 - 1, 0},
		{-32 * 65536, 0},
		{-63 * 65536, 0},
		{-64 * 65536, 0},
		{-65 * 65536, 0},
		{-1 << 40, 0},
		{least, 0},
		{least + 1, 0},
	} {
		if n := fixed.Exp2(c.x); n != c.want {
			t.Error(c, n)
		}
	}
	for n := range 31 {
		if got := fixed.Exp2(int64(-65536 * n)); got != 1<<(30-n) {
			t.Error("at a whole number", n, got)
		}
	}
	for _, x := range append(edges(), some(6, 20000)...) {
		if got, want := fixed.Exp2(x), exp2(x); got != want {
			t.Fatal(x, got, "not", want)
		}
	}
}

// 2.5, 2.7: every x down to where nothing is left.
func TestExp2Rises(t *testing.T) {
	last := fixed.Exp2(0)
	for x := int64(0); x > -32*65536; x-- {
		n := fixed.Exp2(x)
		if n > last || n < 0 {
			t.Fatal("does not rise", x, n, last)
		}
		if half := fixed.Exp2(x - 65536); half != n/2 {
			t.Fatal("half", x, n, half)
		}
		if x > -65536 && n != exp2(x) {
			t.Fatal(x, n, "not", exp2(x))
		}
		if near := math.Exp2(float64(x)/65536) * (1 << 30); math.Abs(near-float64(n)) > 1+near/5000 {
			t.Fatal("far off", x, n, near)
		}
		last = n
	}
}

// log2 goes by the chapter's words, with numbers of any size.
func log2(x int64) int64 {
	n := 0
	for new(big.Int).Lsh(big.NewInt(1), uint(n+1)).Cmp(whole(x)) <= 0 {
		n++
	}
	one := new(big.Int).Lsh(big.NewInt(1), 30)
	two := new(big.Int).Lsh(big.NewInt(1), 31)
	m := floor(new(big.Int).Mul(whole(x), one), new(big.Int).Lsh(big.NewInt(1), uint(n)))
	digits := int64(0)
	for range 16 {
		m = floor(new(big.Int).Mul(m, m), one)
		digits *= 2
		if m.Cmp(two) >= 0 {
			digits++
			m = floor(m, big.NewInt(2))
		}
	}
	return int64(65536*n) + digits
}

// 2.8
func TestLog2(t *testing.T) {
	for _, c := range []struct{ x, want int64 }{
		{1, 0},
		{2, 65536},
		{3, 103872},
		{4, 2 * 65536},
		{1 << 30, 30 * 65536},
		{1 << 31, 31 * 65536},
		{1 << 62, 62 * 65536},
		{most, 63*65536 - 1},
	} {
		if n, e := fixed.Log2(c.x); n != c.want || e != api.OK {
			t.Error(c, n, e)
		}
	}
	for _, x := range []int64{0, -1, -2, least, -most} {
		if n, e := fixed.Log2(x); n != 0 || e != api.ErrNegative {
			t.Error(x, n, e)
		}
	}
	for _, x := range append(edges(), some(7, 20000)...) {
		if x < 1 {
			continue
		}
		n, e := fixed.Log2(x)
		if want := log2(x); n != want || e != api.OK {
			t.Fatal(x, n, e, "not", want)
		}
		if far := float64(n) - 65536*math.Log2(float64(x)); far > 2 || far < -3 {
			t.Fatal("far off", x, n, far)
		}
	}
}

// 2.9
func TestLog2OfPowers(t *testing.T) {
	for n := range 63 {
		if got, e := fixed.Log2(1 << n); got != int64(65536*n) || e != api.OK {
			t.Error(n, got, e)
		}
	}
	for _, x := range append(edges(), some(8, 20000)...) {
		if x < 1 || x > most/2 {
			continue
		}
		a, _ := fixed.Log2(x)
		if b, e := fixed.Log2(2 * x); b != a+65536 || e != api.OK {
			t.Fatal(x, a, b, e)
		}
	}
}
