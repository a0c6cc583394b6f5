package fixed

import "math/bits"

// leastSize is the size of the least int64, one above that of the greatest one.
const leastSize = 1 << 63

// Add is a + b; false, if no int64 can be that.
func Add(a, b int64) (int64, bool) {
	s := a + b
	// The sum wraps just where both have one sign and it has the other.
	if (a^s)&(b^s) < 0 {
		return 0, false
	}
	return s, true
}

// Mul is a * b; false, if no int64 can be that.
func Mul(a, b int64) (int64, bool) {
	below, high, low := product(a, b)
	if high > 0 {
		return 0, false
	}
	return signed(below, low)
}

// Sum is the sum of all of l; false, if no int64 can be that.
func Sum(l []int64) (int64, bool) {
	// Two words hold every sum on the way, so that only the last one is judged.
	var high int64
	var low uint64
	for _, x := range l {
		var carry uint64
		low, carry = bits.Add64(low, uint64(x), 0)
		high += x>>63 + int64(carry)
	}
	s := int64(low)
	if high != s>>63 {
		return 0, false
	}
	return s, true
}

// Power is x to the n-th; false, if n is below 0 or no int64 can be that.
func Power(x int64, n int) (int64, bool) {
	p, ok := int64(1), n >= 0
	for ; ok && n > 0; n >>= 1 {
		if n&1 == 1 {
			p, ok = Mul(p, x)
		}
		// The square behind the highest digit is not taken: it may be too great without harm.
		if ok && n > 1 {
			x, ok = Mul(x, x)
		}
	}
	if !ok {
		return 0, false
	}
	return p, true
}

// size is x without its sign; the least int64 has one, too.
func size(x int64) uint64 {
	if x < 0 {
		return -uint64(x)
	}
	return uint64(x)
}

// signed is the number of that size, below 0 or not; false, if no int64 can be that.
func signed(below bool, n uint64) (int64, bool) {
	if below && n <= leastSize {
		return int64(-n), true
	}
	if !below && n < leastSize {
		return int64(n), true
	}
	return 0, false
}

// product is the size of a * b in two words, and whether it goes below 0 (if it is not 0).
func product(a, b int64) (below bool, high, low uint64) {
	high, low = bits.Mul64(size(a), size(b))
	return (a < 0) != (b < 0), high, low
}
