package fixed_test

import (
	"math/big"
	"slices"
	"testing"

	"herald/fixed"
)

// 2.1
func TestAdd(t *testing.T) {
	for _, c := range []struct {
		a, b, want int64
		ok         bool
	}{
		{0, 0, 0, true},
		{2, 3, 5, true},
		{-2, 3, 1, true},
		{most, 0, most, true},
		{most, 1, 0, false},
		{1, most, 0, false},
		{most, -1, most - 1, true},
		{most, most, 0, false},
		{least, 0, least, true},
		{least, -1, 0, false},
		{-1, least, 0, false},
		{least, least, 0, false},
		{least, most, -1, true},
		{1 << 62, 1 << 62, 0, false},
		{1 << 62, 1<<62 - 1, most, true},
		{6148914691236517205, 6148914691236517205, 0, false}, // each bit of the sum is turned
		{-1 << 62, -1 << 62, least, true},
		{-1 << 62, -1<<62 - 1, 0, false},
	} {
		if n, ok := fixed.Add(c.a, c.b); n != c.want || ok != c.ok {
			t.Error(c, n, ok)
		}
	}
	pairs(func(a, b int64) {
		want, wantOk := fits(new(big.Int).Add(whole(a), whole(b)))
		if n, ok := fixed.Add(a, b); n != want || ok != wantOk {
			t.Fatal(a, b, n, ok, "not", want, wantOk)
		}
	})
}

// 2.1
func TestMul(t *testing.T) {
	for _, c := range []struct {
		a, b, want int64
		ok         bool
	}{
		{0, 0, 0, true},
		{0, least, 0, true},
		{least, 0, 0, true},
		{-3, 7, -21, true},
		{-3, -7, 21, true},
		{least, 1, least, true},
		{least, -1, 0, false},
		{-1, least, 0, false},
		{least, 2, 0, false},
		{least, least, 0, false},
		{most, 1, most, true},
		{most, -1, -most, true},
		{most, 2, 0, false},
		{most, most, 0, false},
		{3037000500, 3037000500, 0, false},
		{3037000499, 3037000499, 9223372030926249001, true},
		{1 << 31, -1 << 32, least, true},
		{1 << 31, 1 << 32, 0, false},
		{-1 << 31, -1 << 32, 0, false},
		{1 << 32, 1 << 32, 0, false},
		{2097151, 4398048608257, most, true}, // (2^21 - 1)(2^42 + 2^21 + 1) is 2^63 - 1
		{2097151, -4398048608257, -most, true},
	} {
		if n, ok := fixed.Mul(c.a, c.b); n != c.want || ok != c.ok {
			t.Error(c, n, ok)
		}
	}
	pairs(func(a, b int64) {
		want, wantOk := fits(new(big.Int).Mul(whole(a), whole(b)))
		if n, ok := fixed.Mul(a, b); n != want || ok != wantOk {
			t.Fatal(a, b, n, ok, "not", want, wantOk)
		}
	})
}

// 2.1, R3
func TestSum(t *testing.T) {
	for _, c := range []struct {
		l    []int64
		want int64
		ok   bool
	}{
		{nil, 0, true},
		{[]int64{}, 0, true},
		{[]int64{-5}, -5, true},
		{[]int64{least}, least, true},
		{[]int64{most, 1, -1}, most, true},
		{[]int64{most, 1}, 0, false},
		{[]int64{1, most}, 0, false},
		{[]int64{least, -1, 1}, least, true},
		{[]int64{least, -1}, 0, false},
		{[]int64{most, most, most, least, least, least}, -3, true},
		{[]int64{least, least, most, most}, -2, true},
		{[]int64{least, least}, 0, false},                   // wraps to 0
		{[]int64{most, most, 2}, 0, false},                  // wraps to 0
		{[]int64{most, most, 1, least, least}, -1, true},    // beyond both ends on the way
		{[]int64{least, least, least, least}, 0, false},     // two words lower
		{[]int64{most, most, most, most, 4}, 0, false},      // two words higher
		{[]int64{least, most, 1, 0, least, most}, -1, true}, // both signs, again and again
		{[]int64{-1, -1, -1}, -3, true},
		{[]int64{-1, 1}, 0, true},
	} {
		if n, ok := fixed.Sum(c.l); n != c.want || ok != c.ok {
			t.Error(c, n, ok)
		}
	}
	pool := slices.Concat(edges(), some(3, 4000))
	for n := range 200 {
		l := make([]int64, n)
		sum := new(big.Int)
		for i := range l {
			l[i] = pool[(n*7919+i*i*31+i)%len(pool)]
			sum.Add(sum, whole(l[i]))
		}
		want, wantOk := fits(sum)
		if got, ok := fixed.Sum(l); got != want || ok != wantOk {
			t.Fatal(l, got, ok, "not", want, wantOk)
		}
	}
}

// 2.1: many of the greatest, and just as many of their negatives behind them.
func TestSumOfMany(t *testing.T) {
	const n = 100000
	l := slices.Concat(slices.Repeat([]int64{most}, n), slices.Repeat([]int64{-most}, n), []int64{17})
	if got, ok := fixed.Sum(l); got != 17 || !ok {
		t.Error(got, ok)
	}
	if got, ok := fixed.Sum(l[:len(l)-2]); got != most || !ok {
		t.Error(got, ok)
	}
	if got, ok := fixed.Sum(l[:len(l)-3]); got != 0 || ok {
		t.Error(got, ok)
	}
}

// 2.8
func TestPower(t *testing.T) {
	for _, c := range []struct {
		x    int64
		n    int
		want int64
		ok   bool
	}{
		{0, 0, 1, true},
		{5, 0, 1, true},
		{least, 0, 1, true},
		{0, 1, 0, true},
		{0, most, 0, true},
		{1, most, 1, true},
		{-1, most, -1, true},
		{-1, most - 1, 1, true},
		{2, most, 0, false},
		{-2, most - 1, 0, false},
		{0, -1, 0, false},
		{1, -1, 0, false},
		{2, -1, 0, false},
		{2, least, 0, false},
		{2, 62, 1 << 62, true},
		{2, 63, 0, false},
		{2, 64, 0, false},
		{-2, 63, least, true},
		{-2, 62, 1 << 62, true},
		{-2, 64, 0, false},
		{-2, 65, 0, false},
		{4, 31, 1 << 62, true},
		{-8, 21, least, true},
		{8, 21, 0, false},
		{3, 39, 4052555153018976267, true},
		{3, 40, 0, false},
		{10, 18, 1e18, true},
		{10, 19, 0, false},
		{3037000499, 2, 9223372030926249001, true},
		{3037000500, 2, 0, false},
		{-3037000500, 2, 0, false},
		{2097151, 3, 9223358842721533951, true},
		{2097152, 3, 0, false},
		{-2097152, 3, least, true},
		{-2097153, 3, 0, false},
		{most, 1, most, true},
		{least, 1, least, true},
		{least, 2, 0, false},
		{least, 3, 0, false},
	} {
		if n, ok := fixed.Power(c.x, c.n); n != c.want || ok != c.ok {
			t.Error(c, n, ok)
		}
	}
	bases := edges()
	for x := int64(-70); x <= 70; x++ {
		bases = append(bases, x)
	}
	for _, x := range bases {
		p := big.NewInt(1)
		for n := range 70 {
			want, wantOk := fits(p)
			if got, ok := fixed.Power(x, n); got != want || ok != wantOk {
				t.Fatal(x, n, got, ok, "not", want, wantOk)
			}
			p.Mul(p, whole(x))
		}
	}
}
