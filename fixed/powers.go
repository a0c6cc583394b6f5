package fixed

import (
	"math/bits"

	"herald/api"
)

const (
	fractionBits = 16
	unit         = 1 << fractionBits // 1, as what goes in to Exp2 and comes out of Log2 counts it

	oneBits = 30
	one     = 1 << oneBits // 1, as Exp2 and Log2 reckon with it

	gone = oneBits + 1 // halvings that leave nothing of a number below 2
)

// bend has the constants of the polynomial that stands for 2 to a fraction, the highest first, but the last one, which is one. They sum to one, so that the whole comes out as 2 at a fraction of 1.
var bend = [3]int64{84941200, 241400000, 747400624}

// Sqrt is the greatest whole number whose square is not above x.
func Sqrt(x int64) (int64, api.Errno) {
	if x < 0 {
		return 0, api.ErrNegative
	}
	// Without a sign, as the square of the first tries is more than an int64 can be.
	var r uint64
	for step := uint64(1) << 31; step > 0; step >>= 1 {
		if next := r + step; next*next <= uint64(x) {
			r = next
		}
	}
	return int64(r), api.OK
}

// Exp2 is 2^(x / 65536), times 2^30, as the document reckons it.
func Exp2(x int64) int64 {
	x = min(x, 0)
	n, t := -(x >> fractionBits), x&(unit-1)
	if n >= gone {
		return 0
	}
	c := int64(0)
	for i := range len(bend) {
		c = bend[i] + c*t>>fractionBits
	}
	return (one + c*t>>fractionBits) >> n
}

// Log2 is the logarithm of x to the base 2, times 65536, as the document reckons it.
func Log2(x int64) (int64, api.Errno) {
	if x < 1 {
		return 0, api.ErrNegative
	}
	n := bits.Len64(uint64(x)) - 1
	m := leading(x, n)
	answer := int64(n)
	for range fractionBits {
		m = m * m >> oneBits
		digit := m >> (oneBits + 1)
		m >>= digit
		answer = answer<<1 | digit
	}
	return answer, api.OK
}

// leading is the floor of x times 2^(30 - n).
func leading(x int64, n int) int64 {
	if n > oneBits {
		return x >> (n - oneBits)
	}
	return x << (oneBits - n)
}
