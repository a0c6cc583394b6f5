package fixed_test

import (
	"math"
	"math/big"
	"math/rand"
)

const (
	least = math.MinInt64
	most  = math.MaxInt64
)

// edges is numbers about 0, about each power of two and about the roots of the greatest, of either sign, and both ends of an int64.
func edges() []int64 {
	l := []int64{least, least + 1, most, 0}
	add := func(x int64) {
		for d := int64(-2); d <= 2; d++ {
			l = append(l, x+d, -(x + d))
		}
	}
	for n := range 63 {
		add(1 << n)
	}
	for _, x := range []int64{3037000499, 2097151, 55108, 6208, 3 << 40, 1e18, most - 2} {
		add(x)
	}
	return l
}

// some is n numbers of all lengths and either sign, the same ones each time.
func some(seed int64, n int) []int64 {
	source := rand.New(rand.NewSource(seed))
	l := make([]int64, n)
	for i := range l {
		l[i] = int64(source.Uint64()) >> source.Intn(64)
	}
	return l
}

// pairs calls back with all pairs of edges and many others.
func pairs(f func(a, b int64)) {
	l := edges()
	for _, a := range l {
		for _, b := range l {
			f(a, b)
		}
	}
	l, m := some(1, 100000), some(2, 100000)
	for i := range l {
		f(l[i], m[i])
	}
}

func whole(x int64) *big.Int { return big.NewInt(x) }

// fits is n and true, if an int64 can be n; else 0 and false.
func fits(n *big.Int) (int64, bool) {
	if !n.IsInt64() {
		return 0, false
	}
	return n.Int64(), true
}

// floor is the floor of x / d of numbers of any size; d is above 0.
func floor(x, d *big.Int) *big.Int {
	return new(big.Int).Div(x, d) // Euclid's, which is the floor there
}
