package rope

import (
	"slices"

	"herald/api"
)

// At is the cosines and the sines of one place of a table.
func At(cos, sin []int8, half, place int) ([]int8, []int8, api.Errno) {
	if !paired(half) {
		return nil, nil, api.ErrPlaces
	}
	if len(cos) != len(sin) || len(cos)%half != 0 {
		return nil, nil, api.ErrAngles
	}
	if place < 0 || place >= len(cos)/half {
		return nil, nil, api.ErrArg
	}
	from, to := place*half, (place+1)*half
	return slices.Clone(cos[from:to]), slices.Clone(sin[from:to]), api.OK
}

// Rows is rows turned by the angles of their places, which follow one another from first on; of the first one that may not be its place in xs and the error.
func Rows(xs [][]int8, size int, cos, sin []int8, first int) ([][]int8, int, api.Errno) {
	rows := make([][]int8, len(xs))
	for i, x := range xs {
		row, e := rowAt(x, size, cos, sin, first+i) // the sum cannot wrap: a row beyond the table ends the walk
		if e != api.OK {
			return nil, i, e
		}
		rows[i] = row
	}
	return rows, 0, api.OK
}

// rowAt is a row turned by the angles of its place.
func rowAt(x []int8, size int, cos, sin []int8, place int) ([]int8, api.Errno) {
	if !headed(size) {
		return nil, api.ErrHead
	}
	c, s, e := At(cos, sin, size/2, place)
	if e != api.OK {
		return nil, e
	}
	return Turn(x, size, c, s)
}
