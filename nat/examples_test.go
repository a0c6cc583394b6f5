package nat_test

import (
	"testing"

	"herald/api"
	"herald/nat"
)

// The chapter's examples 1 to 3.
func TestExamplesOfNumbers(t *testing.T) {
	ok := okay(t)
	x, at, e := nat.Parse("18446744073709551616")
	if _, fits := x.Int(); at != 0 || e != api.OK || x.Bits() != 65 || fits {
		t.Error("2^64:", at, e, x.Bits(), fits)
	}
	parseFails(t, "007", 1)
	parseFails(t, "", 0)
	parseFails(t, "1x", 1)
	is(t, "0", of(t, small(0)), small(0))

	if s := ok(ofInt(t, 7).Power(20)).Text(); s != "79792266297612001" {
		t.Error("7^20:", s)
	}
	x, e = ofInt(t, 2).Power(65536)
	refused(t, "2^65536", e, api.ErrBig, x)
	if bits := ok(ofInt(t, 1).Up(65535)).Bits(); bits != 65536 {
		t.Error("1 Up 65535:", bits)
	}
	x, e = ofInt(t, 1).Up(65536)
	refused(t, "1 Up 65536", e, api.ErrBig, x)

	x, e = ofInt(t, 3).Sub(ofInt(t, 4))
	refused(t, "3 less 4", e, api.ErrBelow, x)
	q, left, e := ofInt(t, 79792266297612001).Div(ofInt(t, 1000))
	if q.Text() != "79792266297612" || left.Text() != "1" || e != api.OK {
		t.Error("Div:", q.Text(), left.Text(), e)
	}
	is(t, "Product(3, 0, 5)", ok(nat.Product([]int64{3, 0, 5})), small(0))
	is(t, "Product()", ok(nat.Product(nil)), small(1))
	x, e = nat.Product([]int64{-1})
	refused(t, "Product(-1)", e, api.ErrBelow, x)
}

// The chapter's example 4.
func TestExamplesOfRatios(t *testing.T) {
	ok := okay(t)
	is(t, "Gcd", ofInt(t, 12).Gcd(ofInt(t, 18)), small(6))
	is(t, "Root", ofInt(t, 99).Root(), small(9))
	is(t, "Choose(5, 2)", ok(nat.Choose(5, 2)), small(10))
	is(t, "Choose(5, 6)", ok(nat.Choose(5, 6)), small(0))
	x, e := nat.Choose(4097, 1)
	refused(t, "Choose(4097, 1)", e, api.ErrArg, x)

	ratio := func(a, b int64, want string) nat.Ratio {
		r, e := nat.NewRatio(ofInt(t, a), ofInt(t, b))
		if e != api.OK || r.Text() != want {
			t.Error(a, "over", b, "is", r.Text(), e)
		}
		return r
	}
	decimal := func(r nat.Ratio, places int, want string) {
		if s, e := r.Decimal(places); s != want || e != api.OK {
			t.Error("Decimal", places, s, e)
		}
	}
	third := ratio(2, 6, "1/3")
	decimal(third, 4, "0.3333")
	decimal(third, 0, "0")
	if r, e := third.Add(ratio(1, 6, "1/6")); r.Text() != "1/2" || e != api.OK {
		t.Error("1/3 and 1/6:", r.Text(), e)
	}
	decimal(ratio(7, 2, "7/2"), 1, "3.5")
	ratio(0, 5, "0/1")
	r, e := nat.NewRatio(ofInt(t, 1), nat.Nat{})
	refusedRatio(t, "1 over 0", r, e, api.ErrZero)
}
