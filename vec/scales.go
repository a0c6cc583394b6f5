package vec

import (
	"herald/api"
	"herald/fixed"
)

const (
	mostWiden = 55 // by which an 8-bit number stays far within an int64
	mostRound = 62 // what fixed.Round takes
)

// Add is the sums of two lists, place by place.
func Add(a, b []int64) ([]int64, api.Errno) {
	if e := alike(a, b); e != api.OK {
		return nil, e
	}
	sums := make([]int64, len(a))
	for i, x := range a {
		sum, ok := fixed.Add(x, b[i])
		if !ok {
			return nil, api.ErrWrap
		}
		sums[i] = sum
	}
	return sums, api.OK
}

// Widen is each number times 2^shift.
func Widen(l []int8, shift int) ([]int64, api.Errno) {
	return shifted(l, shift, mostWiden, func(x int8) int64 { return int64(x) << shift })
}

// Scale is each number over 2^shift, rounded.
func Scale(l []int64, shift int) ([]int64, api.Errno) {
	return shifted(l, shift, mostRound, func(x int64) int64 { return round(x, shift) })
}

// Shrink is each number over 2^shift, rounded and brought within 8 bits.
func Shrink(l []int64, shift int) ([]int8, api.Errno) {
	return shifted(l, shift, mostRound, func(x int64) int8 { return fixed.Narrow(round(x, shift)) })
}

// shifted is what becomes of each number of a list; the shift is looked at ahead of them, as a list without any has an error too.
func shifted[T, U any](l []T, shift, most int, become func(x T) U) ([]U, api.Errno) {
	if e := bounded(l); e != api.OK {
		return nil, e
	}
	if shift < 0 || shift > most {
		return nil, api.ErrShift
	}
	out := make([]U, len(l))
	for i, x := range l {
		out[i] = become(x)
	}
	return out, api.OK
}

// round is fixed.Round by a shift that may be.
func round(x int64, shift int) int64 {
	n, _ := fixed.Round(x, shift)
	return n
}
