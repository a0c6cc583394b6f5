package single

import "math"

// What is reckoned is converted to float32 once more: only that keeps a compiler from joining a product and a sum of a caller into one step that is rounded once.

// Add is the sum.
func Add(a, b uint32) uint32 { return told(float32(number(a) + number(b))) }

// Sub is the difference.
func Sub(a, b uint32) uint32 { return Add(a, b^signBit) }

// Mul is the product.
func Mul(a, b uint32) uint32 { return told(float32(number(a) * number(b))) }

// Div is the quotient.
func Div(a, b uint32) uint32 { return told(float32(number(a) / number(b))) }

// Sqrt is the root.
func Sqrt(a uint32) uint32 {
	// A float64 has more than twice the bits of a float32, so that rounding the root twice is rounding it once.
	return told(float32(math.Sqrt(float64(number(a)))))
}
