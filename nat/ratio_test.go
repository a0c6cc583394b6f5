package nat_test

import (
	"math"
	"math/big"
	"math/rand"
	"slices"
	"strings"
	"testing"

	"herald/api"
	"herald/nat"
)

// ratioOf is the Ratio of a fraction.
func ratioOf(t testing.TB, r *big.Rat) nat.Ratio {
	t.Helper()
	x, e := nat.NewRatio(of(t, r.Num()), of(t, r.Denom()))
	if e != api.OK {
		t.Fatal("NewRatio", e)
	}
	return x
}

// isRatio asks r to be a fraction in its least form.
func isRatio(t testing.TB, what string, r nat.Ratio, want *big.Rat) {
	t.Helper()
	x, y := r.Parts()
	is(t, what+", the first part", x, want.Num())
	is(t, what+", the second part", y, want.Denom())
}

// isRatioOrBig asks for a fraction, or for ErrBig and 0, if one of its numbers is too big.
func isRatioOrBig(t testing.TB, what string, r nat.Ratio, e api.Errno, want *big.Rat) {
	t.Helper()
	if max(want.Num().BitLen(), want.Denom().BitLen()) > api.MaxBits {
		refusedRatio(t, what, r, e, api.ErrBig)
		return
	}
	if e != api.OK {
		t.Fatalf("%s: error %d", what, e)
	}
	isRatio(t, what, r, want)
}

// refusedRatio asks for an error, and for 0 beside it (4.4).
func refusedRatio(t testing.TB, what string, r nat.Ratio, got, want api.Errno) {
	t.Helper()
	if got != want || r.Text() != "0/1" {
		t.Fatalf("%s: %.80s, error %d, want error %d", what, r.Text(), got, want)
	}
}

// 4.7, 4.4: 0 in every place, too.
func TestNewRatio(t *testing.T) {
	for a := range int64(30) {
		for b := int64(1); b < 30; b++ {
			r, e := nat.NewRatio(ofInt(t, a), ofInt(t, b))
			isRatioOrBig(t, "NewRatio", r, e, big.NewRat(a, b))
		}
	}
	for _, n := range edges() {
		x := of(t, n)
		r, e := nat.NewRatio(x, nat.Nat{})
		refusedRatio(t, "NewRatio over 0", r, e, api.ErrZero)
		r, e = nat.NewRatio(x, ofInt(t, 1))
		isRatioOrBig(t, "NewRatio over 1", r, e, new(big.Rat).SetInt(n))
		if n.Sign() == 0 {
			continue
		}
		r, e = nat.NewRatio(nat.Nat{}, x)
		isRatioOrBig(t, "NewRatio of 0", r, e, new(big.Rat))
		r, e = nat.NewRatio(x, x)
		isRatioOrBig(t, "NewRatio of one twice", r, e, big.NewRat(1, 1))
	}
}

// 4.7: great numbers with a common divisor, and without.
func TestNewRatioOfGreatOnes(t *testing.T) {
	for _, words := range []int{2, 10, 500} {
		as, bs, cs := patterned(31, 60, words), patterned(32, 60, words), patterned(33, 60, words)
		for i := range as {
			a, b := new(big.Int).Mul(as[i], cs[i]), new(big.Int).Mul(bs[i], cs[i])
			if b.Sign() == 0 {
				continue
			}
			r, e := nat.NewRatio(of(t, a), of(t, b))
			isRatioOrBig(t, "NewRatio", r, e, new(big.Rat).SetFrac(a, b))
		}
	}
}

// 4.7, Words: the zero value of Ratio is 0 over 1, in all that can be done with it.
func TestZeroRatio(t *testing.T) {
	var zero nat.Ratio
	isRatio(t, "the zero value", zero, new(big.Rat))
	made, e := nat.NewRatio(nat.Nat{}, ofInt(t, 7))
	if e != api.OK || zero.Text() != "0/1" || made.Text() != "0/1" || zero.Compare(made) != 0 || made.Compare(zero) != 0 {
		t.Error("0:", zero.Text(), made.Text(), e)
	}
	third := ratioOf(t, big.NewRat(1, 3))
	if zero.Compare(third) != -1 || third.Compare(zero) != 1 {
		t.Error("Compare with 0")
	}
	r, e := zero.Add(third)
	isRatioOrBig(t, "0 and 1/3", r, e, big.NewRat(1, 3))
	r, e = zero.Add(zero)
	isRatioOrBig(t, "0 and 0", r, e, new(big.Rat))
	r, e = zero.Mul(third)
	isRatioOrBig(t, "0 times 1/3", r, e, new(big.Rat))
	r, e = zero.Div(third)
	isRatioOrBig(t, "0 over 1/3", r, e, new(big.Rat))
	r, e = third.Div(zero)
	refusedRatio(t, "1/3 over 0", r, e, api.ErrZero)
	r, e = zero.Div(zero)
	refusedRatio(t, "0 over 0", r, e, api.ErrZero)
	for places, want := range []string{"0", "0.0", "0.00"} {
		if s, e := zero.Decimal(places); s != want || e != api.OK {
			t.Error("Decimal of 0:", s, e)
		}
	}
}

// 4.7.
func TestRatioText(t *testing.T) {
	for want, r := range map[string]*big.Rat{
		"0/1": new(big.Rat), "1/1": big.NewRat(1, 1), "5/1": big.NewRat(10, 2), "1/3": big.NewRat(2, 6), "18446744073709551616/3": new(big.Rat).SetFrac(power2(64, 0), small(3)),
	} {
		if s := ratioOf(t, r).Text(); s != want {
			t.Error("Text", s, want)
		}
	}
	r := new(big.Rat).SetFrac(greatest(), power2(65535, 0))
	if ratioOf(t, r).Text() != r.Num().String()+"/"+r.Denom().String() {
		t.Error("Text of a great one")
	}
}

// fractions is fractions of many sizes, 0 and whole ones with them, the same ones each time.
func fractions(seed int64, n, words int) []*big.Rat {
	as, bs := patterned(seed, n, words), patterned(seed+1000, n, words)
	l := []*big.Rat{new(big.Rat), big.NewRat(1, 1), big.NewRat(1, 2), big.NewRat(2, 3), big.NewRat(7, 2)}
	for i := range as {
		l = append(l, new(big.Rat).SetFrac(as[i], bs[i].Add(bs[i], small(1))))
	}
	return l
}

// ratioPairs calls back with pairs of fractions: all of a few small ones, and some of great ones, of which many leave what may be.
func ratioPairs(t testing.TB, f func(a, b *big.Rat, r, s nat.Ratio)) {
	t.Helper()
	few := fractions(41, 20, 3)
	for _, a := range few {
		for _, b := range few {
			f(a, b, ratioOf(t, a), ratioOf(t, b))
		}
	}
	for i, words := range []int{3, 12, 200, 400, 800} {
		as, bs := fractions(int64(42+i), 12, words), fractions(int64(52+i), 12, words)
		for i := range as {
			f(as[i], bs[i], ratioOf(t, as[i]), ratioOf(t, bs[i]))
		}
	}
}

// 4.7, 4.4.
func TestRatioSums(t *testing.T) {
	ratioPairs(t, func(a, b *big.Rat, r, s nat.Ratio) {
		if r.Compare(s) != a.Cmp(b) || s.Compare(r) != b.Cmp(a) || r.Compare(r) != 0 {
			t.Fatal("Compare", a, b)
		}
		got, e := r.Add(s)
		isRatioOrBig(t, "Add", got, e, new(big.Rat).Add(a, b))
		got, e = r.Mul(s)
		isRatioOrBig(t, "Mul", got, e, new(big.Rat).Mul(a, b))
		got, e = r.Div(s)
		if b.Sign() == 0 {
			refusedRatio(t, "Div", got, e, api.ErrZero)
			return
		}
		isRatioOrBig(t, "Div", got, e, new(big.Rat).Quo(a, b))
	})
}

// 4.7: what is greater than MaxBits on the way alone is not refused.
func TestRatiosGreatOnTheWay(t *testing.T) {
	most, other := greatest(), new(big.Int).Sub(greatest(), small(1))
	great := new(big.Rat).SetFrac(most, other)
	r, turned := ratioOf(t, great), ratioOf(t, new(big.Rat).Inv(great))
	got, e := r.Mul(turned)
	isRatioOrBig(t, "Mul with what it was turned from", got, e, big.NewRat(1, 1))
	got, e = r.Div(r)
	isRatioOrBig(t, "Div by itself", got, e, big.NewRat(1, 1))
	if r.Compare(turned) != 1 || turned.Compare(r) != -1 || r.Compare(ratioOf(t, great)) != 0 {
		t.Error("Compare of great ones")
	}
	// 1 over 2^65535, twice: the denominators' product has 131071 binary digits.
	small1 := ratioOf(t, new(big.Rat).SetFrac(small(1), power2(65535, 0)))
	got, e = small1.Add(small1)
	isRatioOrBig(t, "Add", got, e, new(big.Rat).SetFrac(small(1), power2(65534, 0)))
}

// 4.7: just MaxBits binary digits, and one more, above the / and below it.
func TestRatiosAtTheLimit(t *testing.T) {
	whole := func(n *big.Int) nat.Ratio { return ratioOf(t, new(big.Rat).SetInt(n)) }
	under := func(n *big.Int) nat.Ratio { return ratioOf(t, new(big.Rat).SetFrac(small(1), n)) }
	one, two, half := whole(small(1)), whole(small(2)), under(small(2))
	most, top := whole(greatest()), whole(power2(65535, 0))
	least, bottom := under(greatest()), under(power2(65535, 0))

	got, e := most.Add(one)
	refusedRatio(t, "Add above", got, e, api.ErrBig)
	got, e = whole(power2(65536, -2)).Add(one)
	isRatioOrBig(t, "Add above", got, e, new(big.Rat).SetInt(greatest()))
	got, e = least.Add(half)
	refusedRatio(t, "Add below", got, e, api.ErrBig)
	got, e = bottom.Add(half)
	isRatioOrBig(t, "Add below", got, e, new(big.Rat).SetFrac(power2(65534, 1), power2(65535, 0)))

	got, e = top.Mul(two)
	refusedRatio(t, "Mul above", got, e, api.ErrBig)
	got, e = bottom.Mul(half)
	refusedRatio(t, "Mul below", got, e, api.ErrBig)
	got, e = most.Mul(one)
	isRatioOrBig(t, "Mul above", got, e, new(big.Rat).SetInt(greatest()))
	got, e = most.Mul(bottom)
	isRatioOrBig(t, "Mul, both great", got, e, new(big.Rat).SetFrac(greatest(), power2(65535, 0)))

	got, e = top.Div(half)
	refusedRatio(t, "Div above", got, e, api.ErrBig)
	got, e = bottom.Div(two)
	refusedRatio(t, "Div below", got, e, api.ErrBig)
	got, e = one.Div(most)
	isRatioOrBig(t, "Div below", got, e, new(big.Rat).SetFrac(small(1), greatest()))
	got, e = one.Div(least)
	isRatioOrBig(t, "Div above", got, e, new(big.Rat).SetInt(greatest()))
}

// decimalOf is the decimal digits of a fraction, cut, told by a single floor.
func decimalOf(r *big.Rat, places int) string {
	scaled := new(big.Int).Exp(small(10), small(int64(places)), nil)
	s := scaled.Mul(scaled, r.Num()).Quo(scaled, r.Denom()).String()
	if places == 0 {
		return s
	}
	if len(s) <= places {
		s = strings.Repeat("0", places+1-len(s)) + s
	}
	return s[:len(s)-places] + "." + s[len(s)-places:]
}

// 4.7.
func TestDecimal(t *testing.T) {
	great := new(big.Rat).SetFrac(greatest(), small(10007))
	for _, r := range slices.Concat(fractions(61, 40, 3), fractions(62, 10, 60), []*big.Rat{
		big.NewRat(1, 3), big.NewRat(2, 3), big.NewRat(999999, 1000000), big.NewRat(1, 1000000), big.NewRat(1, 8), big.NewRat(10, 1), great, new(big.Rat).Inv(great),
	}) {
		x := ratioOf(t, r)
		for _, places := range []int{0, 1, 2, 3, 18, 19, 20, 38, 39, 500, 999, 1000} {
			if s, e := x.Decimal(places); e != api.OK || s != decimalOf(r, places) {
				t.Fatalf("Decimal(%d) of %.100s: %.100s, want %.100s", places, r, s, decimalOf(r, places))
			}
		}
		for _, places := range []int{math.MinInt, -1000, -1, 1001, 1002, 1 << 40, math.MaxInt} {
			if s, e := x.Decimal(places); s != "" || e != api.ErrArg {
				t.Fatalf("Decimal(%d): %q, %d", places, s, e)
			}
		}
	}
}

// 4.8.
func TestRatiosFollow(t *testing.T) {
	source := rand.New(rand.NewSource(63))
	ratioPairs(t, func(a, b *big.Rat, r, s nat.Ratio) {
		sum, e := r.Add(s)
		again, f := s.Add(r)
		if e != f || sum.Text() != again.Text() {
			t.Fatal("Add hangs on the order", a, b)
		}
		product, e := r.Mul(s)
		again, f = s.Mul(r)
		if e != f || product.Text() != again.Text() {
			t.Fatal("Mul hangs on the order", a, b)
		}
		if (r.Text() == s.Text()) != (r.Compare(s) == 0) {
			t.Fatal("alike by Text, or by Compare alone", a, b)
		}
		if q, e := r.Div(s); e == api.OK {
			if back, e := q.Mul(s); e == api.OK && back.Compare(r) != 0 {
				t.Fatal("Div and Mul", a, b)
			}
		}
		places := source.Intn(1000)
		less, _ := r.Decimal(places)
		if more, _ := r.Decimal(places + 1); !strings.HasPrefix(more, less) {
			t.Fatal("Decimal of fewer places", a, places)
		}
	})
}
