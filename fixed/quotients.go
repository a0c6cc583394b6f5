package fixed

import (
	"math/bits"

	"herald/api"
)

const mostShift = 62 // 2 to it is the greatest power of two that an int64 can be

// Floor is the floor of x / d, and what is left over it, from 0 to d - 1.
func Floor(x, d int64) (int64, int64, api.Errno) {
	if d < 1 {
		return 0, 0, api.ErrDivisor
	}
	q, r := x/d, x%d
	// The language cuts towards 0.
	if r < 0 {
		q, r = q-1, r+d
	}
	return q, r, api.OK
}

// Near is the whole number nearest to x / d, of two as near the even one.
func Near(x, d int64) (int64, api.Errno) {
	q, r, e := Floor(x, d)
	if e != api.OK {
		return 0, e
	}
	// Twice r might wrap; what is missing to d does not.
	missing := d - r
	if r > missing || r == missing && q&1 != 0 {
		q++
	}
	return q, api.OK
}

// Round is Near of x and 2 to the shift.
func Round(x int64, shift int) (int64, api.Errno) {
	if shift < 0 || shift > mostShift {
		return 0, api.ErrShift
	}
	return Near(x, 1<<shift)
}

// MulDiv is the floor of a * b / d, however great the product is.
func MulDiv(a, b, d int64) (int64, api.Errno) {
	if d < 1 {
		return 0, api.ErrDivisor
	}
	below, high, low := product(a, b)
	// From here on the quotient's size has more than one word.
	if high >= uint64(d) {
		return 0, api.ErrGreat
	}
	q, r := bits.Div64(high, low, uint64(d))
	// Held against the bound ahead of the step down, which could else wrap to 0.
	if q > leastSize {
		return 0, api.ErrGreat
	}
	if below && r > 0 {
		q++
	}
	n, ok := signed(below, q)
	if !ok {
		return 0, api.ErrGreat
	}
	return n, api.OK
}

// Gcd is the greatest number that divides a and b, 0 of 0 and 0; false, if no int64 can be that.
func Gcd(a, b int64) (int64, bool) {
	m, n := size(a), size(b)
	for n > 0 {
		m, n = n, m%n
	}
	return signed(false, m)
}
