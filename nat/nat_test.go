package nat_test

import (
	"math"
	"math/big"
	"slices"
	"testing"

	"herald/api"
	"herald/nat"
)

// 4.1.
func TestOf(t *testing.T) {
	for _, n := range []int64{0, 1, 2, 255, 1 << 32, math.MaxInt64 - 1, math.MaxInt64} {
		x, e := nat.Of(n)
		isOrBig(t, "Of", x, e, small(n))
	}
	for _, n := range []int64{-1, -2, -1 << 32, math.MinInt64 + 1, math.MinInt64} {
		x, e := nat.Of(n)
		refused(t, "Of", e, api.ErrBelow, x)
	}
}

// Words: the zero value is 0.
func TestZeroValue(t *testing.T) {
	var x nat.Nat
	if n, ok := x.Int(); x.Text() != "0" || n != 0 || !ok || x.Bits() != 0 || x.Bit(0) != 0 || x.Compare(ofInt(t, 0)) != 0 {
		t.Error("the zero value is", x.Text(), n, ok, x.Bits())
	}
}

// productIs asks Product for the product of a list, or for the error that is due.
func productIs(t *testing.T, l []int64) {
	t.Helper()
	x, e := nat.Product(l)
	want := small(1)
	for _, n := range l {
		if n < 0 {
			refused(t, "Product", e, api.ErrBelow, x)
			return
		}
		want.Mul(want, small(n))
	}
	isOrBig(t, "Product", x, e, want)
}

// 4.1, 4.4, R3.
func TestProduct(t *testing.T) {
	const most = math.MaxInt64
	for _, l := range [][]int64{
		nil, {}, {0}, {1}, {7}, {most}, {3, 0, 5}, {0, 0}, {1, 1, 1}, {2, 3, 5, 7, 11, 13},
		{most, most}, {most, 2}, {most, 3}, {1 << 32, 1 << 32}, {1 << 32, 1<<32 - 1}, {1 << 62, 4, 1}, {1, 1 << 62, 1 << 62, 1 << 62, 3},
		{-1}, {-1, 0}, {0, -1}, {3, 5, math.MinInt64}, {most, most, -1},
	} {
		productIs(t, l)
	}
}

// 4.1: just MaxBits binary digits, and one more; a 0 beside great ones, and one below 0 beside those.
func TestProductAtTheLimit(t *testing.T) {
	twos := slices.Repeat([]int64{2}, api.MaxBits)
	productIs(t, twos[1:])
	productIs(t, twos)
	great := slices.Repeat([]int64{1 << 62}, 1057) // 2^65534
	productIs(t, great)
	productIs(t, append(slices.Clone(great), 2))
	productIs(t, append(slices.Clone(great), 3))
	productIs(t, append(slices.Clone(great), 4))
	productIs(t, append(slices.Clone(great), 5))
	tooGreat := slices.Repeat(great, 3)
	productIs(t, tooGreat)
	productIs(t, append(slices.Clone(tooGreat), 0))
	productIs(t, append(slices.Clone(tooGreat), -1))
	productIs(t, append(slices.Clone(tooGreat), 0, -1))
	productIs(t, append([]int64{0}, tooGreat...))
}

// 4.1: ones do not count, however many there are.
func TestProductOfManyOnes(t *testing.T) {
	l := slices.Repeat([]int64{1}, 1<<22)
	l[1<<21] = 6
	productIs(t, l)
}

// 4.2.
func TestInt(t *testing.T) {
	for _, n := range slices.Concat(edges(), patterned(1, 200, 3)) {
		got, ok := of(t, n).Int()
		if ok != n.IsInt64() || ok && got != n.Int64() || !ok && got != 0 {
			t.Errorf("Int of %s: %d, %v", brief(n), got, ok)
		}
	}
}

// 4.2.
func TestBits(t *testing.T) {
	for _, n := range slices.Concat(edges(), patterned(2, 200, 12)) {
		x := of(t, n)
		if x.Bits() != n.BitLen() {
			t.Errorf("Bits of %s: %d", brief(n), x.Bits())
		}
		for i := range n.BitLen() + 130 {
			if x.Bit(i) != int(n.Bit(i)) {
				t.Fatalf("Bit %d of %s: %d", i, brief(n), x.Bit(i))
			}
		}
	}
}

// 4.2: places below 0, and behind the last one.
func TestBitBeyond(t *testing.T) {
	for _, n := range edges() {
		x := of(t, n)
		for _, i := range []int{math.MinInt, math.MinInt + 1, -65536, -65, -64, -63, -1, n.BitLen(), n.BitLen() + 1, api.MaxBits, api.MaxBits + 1, math.MaxInt - 1, math.MaxInt} {
			if x.Bit(i) != 0 {
				t.Errorf("Bit %d of %s: %d", i, brief(n), x.Bit(i))
			}
		}
	}
}

// 4.2.
func TestCompare(t *testing.T) {
	pairs(t, func(a, b *big.Int, x, y nat.Nat) {
		if x.Compare(y) != a.Cmp(b) || y.Compare(x) != b.Cmp(a) || x.Compare(x) != 0 {
			t.Fatalf("Compare %s, %s: %d", brief(a), brief(b), x.Compare(y))
		}
	})
	// Those that differ in one word alone, whichever it is.
	most := of(t, greatest())
	for i := 0; i < api.MaxBits; i += 509 {
		less := new(big.Int).SetBit(greatest(), i, 0)
		if x, y := most, of(t, less); x.Compare(y) != 1 || y.Compare(x) != -1 {
			t.Fatal("Compare, without the binary digit", i)
		}
	}
}
