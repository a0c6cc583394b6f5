package nat_test

import (
	"testing"

	"herald/api"
	"herald/nat"
)

// okay hands on a number that has to be there.
func okay(t testing.TB) func(x nat.Nat, e api.Errno) nat.Nat {
	return func(x nat.Nat, e api.Errno) nat.Nat {
		t.Helper()
		if e != api.OK {
			t.Fatal("error", e)
		}
		return x
	}
}

// same asks two numbers to be one.
func same(t testing.TB, what string, x, y nat.Nat) {
	t.Helper()
	if x.Compare(y) != 0 || x.Bits() != y.Bits() || x.Text() != y.Text() {
		t.Fatalf("%s: %s, %s", what, brief(value(x)), brief(value(y)))
	}
}

// 4.5.
func TestSumsFollow(t *testing.T) {
	ok := okay(t)
	as, bs, cs := patterned(71, 300, 9), patterned(72, 300, 9), patterned(73, 300, 9)
	for i := range as {
		x, y, z := of(t, as[i]), of(t, bs[i]), of(t, cs[i])
		sum, product := ok(x.Add(y)), ok(x.Mul(y))
		same(t, "x + y, y + x", sum, ok(y.Add(x)))
		same(t, "x y, y x", product, ok(y.Mul(x)))
		same(t, "(x + y) + z, x + (y + z)", ok(sum.Add(z)), ok(x.Add(ok(y.Add(z)))))
		same(t, "(x y) z, x (y z)", ok(product.Mul(z)), ok(x.Mul(ok(y.Mul(z)))))
		same(t, "(x + y) z, x z + y z", ok(sum.Mul(z)), ok(ok(x.Mul(z)).Add(ok(y.Mul(z)))))
		same(t, "(x + y) - y", ok(sum.Sub(y)), x)
		same(t, "up and down", ok(ok(x.Up(i)).Down(i)), x)
		if y.Bits() > 0 {
			q, left, e := x.Div(y)
			if e != api.OK || left.Compare(y) != -1 {
				t.Fatal("Div: what is left is not below", e)
			}
			same(t, "y q + left", ok(ok(y.Mul(q)).Add(left)), x)
		}
	}
}

// 4.5.
func TestPowersFollow(t *testing.T) {
	ok := okay(t)
	for i, n := range patterned(74, 60, 3) {
		x := of(t, n)
		a, b := i%13, i%17
		same(t, "Power(a + b)", ok(x.Power(a+b)), ok(ok(x.Power(a)).Mul(ok(x.Power(b)))))
	}
}

// 4.8.
func TestChooseFollows(t *testing.T) {
	ok := okay(t)
	for _, n := range []int{1, 2, 3, 10, 33, 64, 65, 200, 1000, 4095, 4096} {
		for _, k := range []int{0, 1, 2, n / 3, n / 2, n - 1, n} {
			x := ok(nat.Choose(n, k))
			same(t, "Choose the others", x, ok(nat.Choose(n, n-k)))
			same(t, "Choose with and without one", x, ok(ok(nat.Choose(n-1, k-1)).Add(ok(nat.Choose(n-1, k)))))
		}
	}
}

// 4.6: all ways to take some of n things are 2^n.
func TestChooseSums(t *testing.T) {
	ok := okay(t)
	for _, n := range []int{0, 1, 70, 300} {
		var sum nat.Nat
		for k := range n + 1 {
			sum = ok(sum.Add(ok(nat.Choose(n, k))))
		}
		is(t, "the sum of Choose", sum, power2(uint(n), 0))
	}
}
