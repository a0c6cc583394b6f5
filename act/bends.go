package act

import (
	"herald/api"
	"herald/fixed"
)

const (
	values     = 256     // how many numbers there are of 8 bits, and so in a bend
	squareBits = 7       // so that the square of the greatest number has room in 8 bits
	softWhole  = 1 << 30 // Exp2 of 0
	softStep   = 8192    // of Exp2's own, so that 8 steps of x are a factor of 2
)

// Table is a usual bend.
func Table(kind int) ([]int8, api.Errno) {
	bent, ok := bends()[kind]
	if !ok {
		return nil, api.ErrKind
	}
	bend := make([]int8, values)
	for i := range bend {
		x := int8(i) // from 128 on it wraps to the number below 0 that has this place
		bend[i] = bent(int64(x))
	}
	return bend, api.OK
}

// bends is, by its kind, what a usual bend makes of an 8-bit number.
func bends() map[int]func(x int64) int8 {
	return map[int]func(x int64) int8{
		api.BendCut:    func(x int64) int8 { return int8(max(x, 0)) },
		api.BendSoft:   func(x int64) int8 { return rounded(x*opening(x), oneBits) },
		api.BendSquare: func(x int64) int8 { return rounded(x*max(x, 0), squareBits) },
	}
}

// opening is how much of x BendSoft lets through, of which 64 would be all.
func opening(x int64) int64 {
	if x < 0 {
		return 1<<oneBits - opening(-x)
	}
	return softWhole << oneBits / (softWhole + fixed.Exp2(-softStep*x))
}

// placeOf is where a bend has what it makes of x.
func placeOf(x int8) int { return int(uint8(x)) }
