package nat_test

import (
	"math"
	"math/big"
	"math/rand"
	"testing"

	"herald/api"
	"herald/nat"
)

func small(n int64) *big.Int { return big.NewInt(n) }

// power2 is 2^n and so much more.
func power2(n uint, more int64) *big.Int {
	p := new(big.Int).Lsh(small(1), n)
	return p.Add(p, small(more))
}

// greatest is the greatest number that may be, 2^MaxBits less 1.
func greatest() *big.Int { return power2(api.MaxBits, -1) }

// of is the Nat of a number from 0 on that is not too big.
func of(t testing.TB, n *big.Int) nat.Nat {
	t.Helper()
	x, at, e := nat.Parse(n.String())
	if at != 0 || e != api.OK {
		t.Fatalf("Parse of %d binary digits: %d, %d", n.BitLen(), at, e)
	}
	return x
}

// ofInt is the Nat of a small number.
func ofInt(t testing.TB, n int64) nat.Nat {
	t.Helper()
	x, e := nat.Of(n)
	if e != api.OK {
		t.Fatalf("Of %d: %d", n, e)
	}
	return x
}

// value is the number of x, by its binary digits.
func value(x nat.Nat) *big.Int {
	v := new(big.Int)
	for i := x.Bits() - 1; i >= 0; i-- {
		v.SetBit(v, i, uint(x.Bit(i)))
	}
	return v
}

// is asks x to be a number.
func is(t testing.TB, what string, x nat.Nat, want *big.Int) {
	t.Helper()
	if x.Bits() != want.BitLen() || value(x).Cmp(want) != 0 {
		t.Fatalf("%s: %s, want %s", what, brief(value(x)), brief(want))
	}
}

// isOrBig asks for a number, or for ErrBig and 0, if it has too many binary digits.
func isOrBig(t testing.TB, what string, x nat.Nat, e api.Errno, want *big.Int) {
	t.Helper()
	if want.BitLen() > api.MaxBits {
		refused(t, what, e, api.ErrBig, x)
		return
	}
	if e != api.OK {
		t.Fatalf("%s: error %d, want %s", what, e, brief(want))
	}
	is(t, what, x, want)
}

// refused asks for an error, and for 0 beside it (4.4).
func refused(t testing.TB, what string, got, want api.Errno, beside ...nat.Nat) {
	t.Helper()
	if got != want {
		t.Fatalf("%s: error %d, want %d", what, got, want)
	}
	for _, x := range beside {
		if x.Bits() != 0 || x.Text() != "0" {
			t.Fatalf("%s: %s beside the error", what, brief(value(x)))
		}
	}
}

// brief is a number for people to look at.
func brief(n *big.Int) string {
	s := n.Text(16)
	if len(s) > 80 {
		s = s[:40] + ".." + s[len(s)-40:]
	}
	return s
}

// edges is 0, small numbers, and those about the ends of words, of groups of decimal digits, and of what may be.
func edges() []*big.Int {
	var l []*big.Int
	for n := range int64(5) {
		l = append(l, small(n))
	}
	for _, n := range []uint{31, 32, 63, 64, 65, 127, 128, 192} {
		l = append(l, power2(n, -1), power2(n, 0), power2(n, 1))
	}
	for _, n := range []int64{18, 19, 20, 38} {
		ten := new(big.Int).Exp(small(10), small(n), nil)
		l = append(l, ten, new(big.Int).Sub(ten, small(1)))
	}
	l = append(l, small(math.MaxInt64-1), power2(32767, 1), power2(32768, -1), power2(32768, 0))
	l = append(l, power2(65535, -1), power2(65535, 0), power2(65535, 1), power2(65536, -2), greatest())
	return l
}

// patterned is numbers of up to so many words whose words are at their ends often; the same ones each time.
func patterned(seed int64, n, words int) []*big.Int {
	source := rand.New(rand.NewSource(seed))
	ends := []uint64{0, 0, 1, 2, math.MaxUint64, math.MaxUint64, math.MaxUint64 - 1, 1 << 63, 1<<63 - 1, 1<<63 + 1}
	l := make([]*big.Int, n)
	for i := range l {
		v := new(big.Int)
		for range source.Intn(words + 1) {
			w := source.Uint64()
			if k := source.Intn(2 * len(ends)); k < len(ends) {
				w = ends[k]
			}
			v.Lsh(v, 64).Or(v, new(big.Int).SetUint64(w))
		}
		// Some begin within a word.
		l[i] = v.Rsh(v, uint(source.Intn(2)*source.Intn(64)))
	}
	return l
}

// pairs calls back with all pairs of edges, with pairs of many sizes, and with some great ones, as numbers and as Nats.
func pairs(t testing.TB, f func(a, b *big.Int, x, y nat.Nat)) {
	t.Helper()
	l := edges()
	nats := make([]nat.Nat, len(l))
	for i, a := range l {
		nats[i] = of(t, a)
	}
	for i, a := range l {
		for j, b := range l {
			f(a, b, nats[i], nats[j])
		}
	}
	for seed, words := range []int{2, 3, 4, 6, 12, 40} {
		as, bs := patterned(int64(seed), 400, words), patterned(int64(100+seed), 400, words)
		for i := range as {
			f(as[i], bs[i], of(t, as[i]), of(t, bs[i]))
		}
	}
	as, bs := patterned(7, 20, 1024), patterned(8, 20, 1024)
	for i := range as {
		f(as[i], bs[i], of(t, as[i]), of(t, bs[i]))
	}
}
