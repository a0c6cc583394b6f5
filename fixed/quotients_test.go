package fixed_test

import (
	"math/big"
	"testing"

	"herald/api"
	"herald/fixed"
)

// 2.3
func TestFloor(t *testing.T) {
	for _, c := range []struct{ x, d, q, r int64 }{
		{-7, 2, -4, 1},
		{7, 2, 3, 1},
		{-8, 2, -4, 0},
		{8, 2, 4, 0},
		{0, 5, 0, 0},
		{-1, 5, -1, 4},
		{-5, 5, -1, 0},
		{-6, 5, -2, 4},
		{least, 1, least, 0},
		{most, 1, most, 0},
		{least, most, -2, most - 1},
		{least + 1, most, -1, 0},
		{most, most, 1, 0},
		{most - 1, most, 0, most - 1},
		{-1, most, -1, most - 1},
		{least, 2, -1 << 62, 0},
		{least, 3, -3074457345618258603, 1},
	} {
		if q, r, e := fixed.Floor(c.x, c.d); q != c.q || r != c.r || e != api.OK {
			t.Error(c, q, r, e)
		}
	}
	pairs(func(x, d int64) {
		q, r, e := fixed.Floor(x, d)
		if d < 1 {
			if q != 0 || r != 0 || e != api.ErrDivisor {
				t.Fatal(x, d, q, r, e)
			}
			return
		}
		want, rest := new(big.Int).DivMod(whole(x), whole(d), new(big.Int))
		if q != want.Int64() || r != rest.Int64() || e != api.OK {
			t.Fatal(x, d, q, r, e, "not", want, rest)
		}
	})
}

// nearest is the whole number nearest to x / d, of two the even one, by holding both against it.
func nearest(x, d *big.Int) *big.Int {
	below := floor(x, d)
	above := new(big.Int).Add(below, big.NewInt(1))
	over := new(big.Int).Sub(x, new(big.Int).Mul(below, d))
	under := new(big.Int).Sub(new(big.Int).Mul(above, d), x)
	switch over.Cmp(under) {
	case -1:
		return below
	case 1:
		return above
	}
	if below.Bit(0) == 0 {
		return below
	}
	return above
}

// 2.3
func TestNear(t *testing.T) {
	for _, c := range []struct{ x, d, want int64 }{
		{7, 2, 4},
		{5, 2, 2},
		{3, 2, 2},
		{1, 2, 0},
		{-1, 2, 0},
		{-3, 2, -2},
		{-5, 2, -2},
		{-7, 2, -4},
		{4, 3, 1},
		{5, 3, 2},
		{-4, 3, -1},
		{-5, 3, -2},
		{3, 6, 0},
		{9, 6, 2},
		{-9, 6, -2},
		{-3, 6, 0},
		{2, 6, 0},
		{4, 6, 1},
		{0, 1, 0},
		{most, 1, most},
		{least, 1, least},
		{most, 2, 1 << 62},
		{most - 2, 2, 1<<62 - 2},
		{least, 2, -1 << 62},
		{least + 1, 2, -1 << 62},
		{least, most, -1},
		{most, most, 1},
		{1 << 62, most, 1},
		{1<<62 - 1, most, 0},
		{-1 << 62, most, -1},
		{1<<61 - 1, 1 << 62, 0},
		{1 << 61, 1 << 62, 0},
		{1<<61 + 1, 1 << 62, 1},
		{3 << 61, 1 << 62, 2},
	} {
		if q, e := fixed.Near(c.x, c.d); q != c.want || e != api.OK {
			t.Error(c, q, e)
		}
	}
	pairs(func(x, d int64) {
		q, e := fixed.Near(x, d)
		if d < 1 {
			if q != 0 || e != api.ErrDivisor {
				t.Fatal(x, d, q, e)
			}
			return
		}
		if want := nearest(whole(x), whole(d)); q != want.Int64() || e != api.OK {
			t.Fatal(x, d, q, e, "not", want)
		}
	})
}

// 2.3: all small numbers, so that each kind of tie is there.
func TestNearOfSmall(t *testing.T) {
	for d := int64(1); d <= 20; d++ {
		for x := int64(-200); x <= 200; x++ {
			if q, e := fixed.Near(x, d); q != nearest(whole(x), whole(d)).Int64() || e != api.OK {
				t.Error(x, d, q, e)
			}
		}
	}
}

// 2.3
func TestRound(t *testing.T) {
	for _, c := range []struct {
		x     int64
		shift int
		want  int64
		e     api.Errno
	}{
		{6, 2, 2, api.OK},
		{10, 2, 2, api.OK},
		{-6, 2, -2, api.OK},
		{7, 0, 7, api.OK},
		{least, 0, least, api.OK},
		{most, 0, most, api.OK},
		{most, 62, 2, api.OK},
		{least, 62, -2, api.OK},
		{3 << 61, 62, 2, api.OK},
		{1 << 61, 62, 0, api.OK},
		{1<<61 + 1, 62, 1, api.OK},
		{-1 << 61, 62, 0, api.OK},
		{-1<<61 - 1, 62, -1, api.OK},
		{1, 63, 0, api.ErrShift},
		{0, 63, 0, api.ErrShift},
		{1, 64, 0, api.ErrShift},
		{1, -1, 0, api.ErrShift},
		{1, most, 0, api.ErrShift},
		{1, least, 0, api.ErrShift},
		{1, 1 << 32, 0, api.ErrShift},
		{1, 1 << 8, 0, api.ErrShift},
	} {
		if q, e := fixed.Round(c.x, c.shift); q != c.want || e != c.e {
			t.Error(c, q, e)
		}
	}
	for _, x := range edges() {
		for shift := range 63 {
			if q, e := fixed.Round(x, shift); q != nearest(whole(x), new(big.Int).Lsh(big.NewInt(1), uint(shift))).Int64() || e != api.OK {
				t.Error(x, shift, q, e)
			}
		}
	}
}

// 2.8
func TestMulDiv(t *testing.T) {
	for _, c := range []struct {
		a, b, d, want int64
		e             api.Errno
	}{
		{most, 6, 4, 0, api.ErrGreat},
		{most, 6, 7, 7905747460161236406, api.OK},
		{-7, 1, 2, -4, api.OK},
		{7, -1, 2, -4, api.OK},
		{-7, -1, 2, 3, api.OK},
		{7, 1, 2, 3, api.OK},
		{-8, 1, 2, -4, api.OK},
		{0, -5, 3, 0, api.OK},
		{-5, 0, 3, 0, api.OK},
		{-1, 1, most, -1, api.OK},
		{1, 1, most, 0, api.OK},
		{most, most, most, most, api.OK},
		{least, most, most, least, api.OK},
		{least, -most, most, 0, api.ErrGreat},
		{least, least, most, 0, api.ErrGreat},
		{least, 1, 1, least, api.OK},
		{least, -1, 1, 0, api.ErrGreat},
		{-1, least, 1, 0, api.ErrGreat},
		{least, -1, 2, 1 << 62, api.OK},
		{most, -1, 1, -most, api.OK},
		{least, 2, 2, least, api.OK},
		{least, -2, 2, 0, api.ErrGreat},
		{1<<32 + 1, -1 << 32, 2, 0, api.ErrGreat},      // -2^63 - 2^31
		{1 << 32, -1 << 32, 2, least, api.OK},          // -2^63
		{1 << 32, 1 << 32, 2, 0, api.ErrGreat},         // 2^63
		{6148914691236517205, -3, 2, least, api.OK},    // -(2^64 - 1) / 2, down to -2^63
		{6148914691236517205, 3, 2, most, api.OK},      // down to 2^63 - 1
		{-6148914691236517206, 3, 2, 0, api.ErrGreat},  // -(2^64 + 2) / 2
		{1<<62 + 1, -4, 2, 0, api.ErrGreat},            // -2^63 - 2
		{3074457345618258603, -6, 2, 0, api.ErrGreat},  // -(2^64 + 2) / 2
		{3689348814741910323, -15, 6, least, api.OK},   // half above -2^63
		{3689348814741910323, 15, 6, most, api.OK},     // half below 2^63
		{5534023222112865485, -5, 3, 0, api.ErrGreat},  // a third below -2^63
		{5534023222112865485, 5, 3, 0, api.ErrGreat},   // a third above 2^63
		{1844674407370955161, -10, 1, 0, api.ErrGreat}, // near -2^64
		{4611686018427387904, -4, 1, 0, api.ErrGreat},  // -2^64
		{9223372036854775807, -5, 2, 0, api.ErrGreat},  // a quotient of one word
		{9223372036854775807, -8, 3, 0, api.ErrGreat},  // a quotient of one word, of more than 63 bits
		{9223372036854775807, -7, 3, 0, api.ErrGreat},  // the same
		{1, 1, 0, 0, api.ErrDivisor},
		{1, 1, -1, 0, api.ErrDivisor},
		{least, least, least, 0, api.ErrDivisor},
		{most, most, 0, 0, api.ErrDivisor}, // ahead of ErrGreat
	} {
		if n, e := fixed.MulDiv(c.a, c.b, c.d); n != c.want || e != c.e {
			t.Error(c, n, e)
		}
	}
	divisors := []int64{1, 2, 3, 4, 6, 7, 10, 65535, 65536, 1<<32 - 1, 1 << 32, 1 << 62, most - 1, most}
	i := 0
	pairs(func(a, b int64) {
		i++
		checkMulDiv(t, a, b, divisors[i%len(divisors)])
		checkMulDiv(t, a, b, b)
		checkMulDiv(t, a, b, a)
	})
}

func checkMulDiv(t *testing.T, a, b, d int64) {
	t.Helper()
	n, e := fixed.MulDiv(a, b, d)
	if d < 1 {
		if n != 0 || e != api.ErrDivisor {
			t.Fatal(a, b, d, n, e)
		}
		return
	}
	want, ok := fits(floor(new(big.Int).Mul(whole(a), whole(b)), whole(d)))
	wantError := api.OK
	if !ok {
		wantError = api.ErrGreat
	}
	if n != want || e != wantError {
		t.Fatal(a, b, d, n, e, "not", want, wantError)
	}
}

// 2.8: a quotient that lies less than one below -2^64 rounds down by one step more, and no room of 64 bits has it.
func TestMulDivJustBeyondAWord(t *testing.T) {
	for d := int64(2); d <= 1000; d++ {
		// a * b is d * 2^64 - 1, where it has two halves of 63 bits.
		p := new(big.Int).Sub(new(big.Int).Lsh(whole(d), 64), big.NewInt(1))
		for b := d + 1; b < 4*d+50; b++ {
			q, r := new(big.Int).DivMod(p, whole(b), new(big.Int))
			if q.IsInt64() && r.Sign() == 0 {
				checkMulDiv(t, q.Int64(), b, d)
				checkMulDiv(t, q.Int64(), -b, d)
			}
		}
	}
}

// 2.8
func TestGcd(t *testing.T) {
	for _, c := range []struct {
		a, b, want int64
		ok         bool
	}{
		{-12, 18, 6, true},
		{12, -18, 6, true},
		{-12, -18, 6, true},
		{18, 12, 6, true},
		{0, 0, 0, true},
		{0, 5, 5, true},
		{-5, 0, 5, true},
		{1, most, 1, true},
		{most, most, most, true},
		{-most, most, most, true},
		{most, 0, most, true},
		{-most, 0, most, true},
		{least, 0, 0, false},
		{0, least, 0, false},
		{least, least, 0, false},
		{least, most, 1, true},
		{least, 1, 1, true},
		{least, -1, 1, true},
		{least, 6, 2, true},
		{1 << 62, least, 1 << 62, true},
		{least, -1 << 62, 1 << 62, true},
		{7540113804746346429, 4660046610375530309, 1, true}, // Fibonacci's, the longest walk
		{7, 7, 7, true},
	} {
		if n, ok := fixed.Gcd(c.a, c.b); n != c.want || ok != c.ok {
			t.Error(c, n, ok)
		}
	}
	pairs(func(a, b int64) {
		want, wantOk := fits(new(big.Int).GCD(nil, nil, new(big.Int).Abs(whole(a)), new(big.Int).Abs(whole(b))))
		if n, ok := fixed.Gcd(a, b); n != want || ok != wantOk {
			t.Fatal(a, b, n, ok, "not", want, wantOk)
		}
	})
}
