package norm

import (
	"herald/api"
	"herald/fixed"
)

// Center is a row about its mean, and the mean.
func Center(l []int64) ([]int64, int64, api.Errno) {
	if e := refusal(l); e != api.OK {
		return nil, 0, e
	}
	centered, mean := center(l)
	return centered, mean, api.OK
}

// Layer is a row about its mean, brought to one size, with a bias for each number.
func Layer(l []int64, gain, bias []int8) ([]int8, api.Errno) {
	if len(l) != len(gain) || len(l) != len(bias) {
		return nil, api.ErrArg
	}
	if e := refusal(l); e != api.OK {
		return nil, e
	}
	centered, _ := center(l)
	if e := reach(centered); e != api.OK { // a number may lie twice as far from the mean as from 0
		return nil, e
	}
	r := root(centered)
	row := make([]int8, len(l))
	for i, x := range centered {
		row[i] = fixed.Narrow(gained(x, r, gain[i]) + int64(bias[i]))
	}
	return row, api.OK
}

// Largest is the greatest size of a number, and where it stands first.
func Largest(l []int64) (int64, int, api.Errno) {
	if e := refusal(l); e != api.OK {
		return 0, 0, e
	}
	sizes := make([]int64, len(l))
	for i, x := range l {
		sizes[i] = max(x, -x)
	}
	at := fixed.Argmax(sizes)
	return sizes[at], at, api.OK
}

// center is a row that may be, each number less the mean, and the mean, which is rounded down.
func center(l []int64) ([]int64, int64) {
	sum, _ := fixed.Sum(l)
	mean, _, _ := fixed.Floor(sum, int64(len(l)))
	centered := make([]int64, len(l))
	for i, x := range l {
		centered[i] = x - mean
	}
	return centered, mean
}
