package single

import (
	"math"

	"herald/api"
)

const most8 = 127 // on both sides of 0: -128 never comes out

// Quantise is a row as numbers of 8 bits, and their common scale.
func Quantise(l []uint32) ([]int8, int, api.Errno) {
	size, e := greatest(l)
	if e != api.OK {
		return nil, 0, e
	}
	scale, e := scaleOf(size)
	if e != api.OK {
		return nil, 0, e
	}
	return row(l, scale), scale, api.OK
}

// At is a row as numbers of 8 bits at a scale.
func At(l []uint32, scale int) ([]int8, api.Errno) {
	if !isScale(scale) {
		return nil, api.ErrScale
	}
	size, e := greatest(l)
	if e != api.OK {
		return nil, e
	}
	if nearest(size, scale) > most8 {
		return nil, api.ErrScale
	}
	return row(l, scale), api.OK
}

// Scaled is a number of 8 bits as a single again.
func Scaled(q int8, scale int) (uint32, api.Errno) {
	if !isScale(scale) {
		return 0, api.ErrScale
	}
	return Near(int(q), -scale), api.OK
}

func isScale(scale int) bool { return -api.MaxScale <= scale && scale <= api.MaxScale }

// greatest is the greatest size of a row's numbers: the whole row has room just where that one has.
func greatest(l []uint32) (uint32, api.Errno) {
	size := uint32(0)
	for _, b := range l {
		size = max(size, b&^signBit) // sizes are in the order of their bits, and those that are not finite come last
	}
	if size >= singles.infinite() {
		return 0, api.ErrFinite
	}
	return size, api.OK
}

// scaleOf is the greatest scale at which a size has room in 8 bits.
func scaleOf(size uint32) (int, api.Errno) {
	if size == 0 {
		return 0, api.OK
	}
	for scale := api.MaxScale; scale >= -api.MaxScale; scale-- {
		if nearest(size, scale) <= most8 {
			return scale, api.OK
		}
	}
	return 0, api.ErrScale
}

// row is the numbers of l at a scale at which each has room.
func row(l []uint32, scale int) []int8 {
	r := make([]int8, len(l))
	for i, b := range l {
		r[i] = int8(nearest(b, scale))
	}
	return r
}

// nearest is the whole number nearest to a finite single's times 2^scale; a float64 has room for every such product.
func nearest(b uint32, scale int) float64 {
	return math.RoundToEven(math.Ldexp(float64(number(b)), scale))
}
