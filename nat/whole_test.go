package nat_test

import (
	"math"
	"math/big"
	"math/rand"
	"slices"
	"testing"

	"herald/api"
	"herald/nat"
)

// gcdIs asks Gcd for the greatest common divisor, either way about.
func gcdIs(t *testing.T, a, b *big.Int, x, y nat.Nat) {
	t.Helper()
	want := new(big.Int).GCD(nil, nil, a, b)
	is(t, "Gcd of "+brief(a)+", "+brief(b), x.Gcd(y), want)
	is(t, "Gcd of "+brief(b)+", "+brief(a), y.Gcd(x), want)
}

// 4.6.
func TestGcd(t *testing.T) {
	for a := range int64(40) {
		for b := range int64(40) {
			gcdIs(t, small(a), small(b), ofInt(t, a), ofInt(t, b))
		}
	}
	pairs(t, func(a, b *big.Int, x, y nat.Nat) {
		// Of edges so great some are enough.
		if min(a.BitLen(), b.BitLen()) < 60000 || a.Cmp(b) < 0 {
			gcdIs(t, a, b, x, y)
		}
	})
}

// 4.6: with a common divisor of many sizes, and with quotients that are small and great on the way.
func TestGcdOfMultiples(t *testing.T) {
	for _, words := range []int{1, 2, 3, 8, 30, 300} {
		cs, as, bs := patterned(21, 100, words), patterned(22, 100, words), patterned(23, 100, words)
		for i, c := range cs {
			a, b := new(big.Int).Mul(as[i], c), new(big.Int).Mul(bs[i], c)
			gcdIs(t, a, b, of(t, a), of(t, b))
		}
	}
}

// 4.6: numbers by whose quotients Euclid's way has its steps: all 1 (the most steps that may be), those at the end of a word, and any.
func TestGcdByQuotients(t *testing.T) {
	source := rand.New(rand.NewSource(24))
	for round := range 300 {
		a, b := small(1), small(0)
		for a.BitLen() < 100+10*round {
			q := new(big.Int).SetUint64(source.Uint64() >> source.Intn(64))
			switch round % 3 {
			case 0:
				q = small(1)
			case 1:
				q = power2(uint(source.Intn(70)), int64(source.Intn(2)))
			}
			a, b = q.Add(q.Mul(q, a), b), a
		}
		c := small(1 + source.Int63())
		a.Mul(a, c)
		b.Mul(b, c)
		gcdIs(t, a, b, of(t, a), of(t, b))
	}
}

// rootIs asks Root for the greatest number whose square is not above.
func rootIs(t *testing.T, n *big.Int) {
	t.Helper()
	is(t, "Root of "+brief(n), of(t, n).Root(), new(big.Int).Sqrt(n))
}

// 4.6.
func TestRoot(t *testing.T) {
	for n := range int64(2000) {
		rootIs(t, small(n))
	}
	for _, n := range slices.Concat(edges(), patterned(25, 500, 9), patterned(26, 10, 1024)) {
		rootIs(t, n)
	}
	// About squares, where it goes up.
	for _, n := range slices.Concat(edges(), patterned(27, 300, 5)) {
		square := new(big.Int).Mul(n, n)
		if n.Sign() == 0 || square.BitLen() >= api.MaxBits {
			continue
		}
		for beside := int64(-1); beside <= 1; beside++ {
			rootIs(t, new(big.Int).Add(square, small(beside)))
		}
	}
}

// chooseIs asks Choose for the number of ways.
func chooseIs(t *testing.T, n, k int) {
	t.Helper()
	want := small(0)
	if 0 <= k && k <= n {
		want.Binomial(int64(n), int64(k))
	}
	x, e := nat.Choose(n, k)
	isOrBig(t, "Choose", x, e, want)
}

// 4.6, 4.4: at 0, at MaxChoose, and beyond.
func TestChoose(t *testing.T) {
	for n := range 70 {
		for k := -3; k <= n+3; k++ {
			chooseIs(t, n, k)
		}
	}
	for _, n := range []int{0, 1, 100, 1000, api.MaxChoose - 1, api.MaxChoose} {
		for _, k := range []int{math.MinInt, -1, 0, 1, 2, 3, 64, n/2 - 1, n / 2, n/2 + 1, n - 1, n, n + 1, api.MaxChoose, api.MaxChoose + 1, math.MaxInt} {
			chooseIs(t, n, k)
		}
	}
	for _, n := range []int{math.MinInt, -4096, -1, api.MaxChoose + 1, api.MaxChoose + 2, 1 << 40, math.MaxInt} {
		for _, k := range []int{math.MinInt, -1, 0, 1, 5, n, math.MaxInt} {
			x, e := nat.Choose(n, k)
			refused(t, "Choose", e, api.ErrArg, x)
		}
	}
}
