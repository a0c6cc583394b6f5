package soft

import (
	"herald/api"
	"herald/fixed"
)

const maxWeight = 1 << 30

// Mean is a mean by weights.
func Mean(w []int64, v []int8) (int8, api.Errno) {
	total, e := weighed(w, len(v))
	if e != api.OK {
		return 0, e
	}
	var sum int64
	for i, x := range v {
		sum += w[i] * int64(x)
	}
	return nearest(sum, total), api.OK
}

// Means is the means of columns.
func Means(w []int64, rows [][]int8) ([]int8, api.Errno) {
	if !level(rows) {
		return nil, api.ErrArg
	}
	total, e := weighed(w, len(rows))
	if e != api.OK {
		return nil, e
	}
	means := make([]int8, len(rows[0])) // where weights have a sum, there is a row
	for column := range means {
		var sum int64
		for i, row := range rows {
			sum += w[i] * int64(row[column])
		}
		means[column] = nearest(sum, total)
	}
	return means, api.OK
}

// Best is the number of the greatest weight, and its place.
func Best(w []int64, v []int8) (int8, int, api.Errno) {
	if _, e := weighed(w, len(v)); e != api.OK {
		return 0, 0, e
	}
	at := fixed.Argmax(w)
	return v[at], at, api.OK
}

// level says whether all rows have one length.
func level(rows [][]int8) bool {
	for _, row := range rows {
		if len(row) != len(rows[0]) {
			return false
		}
	}
	return true
}

// weighed is the sum of weights by which a mean of n things is made, or why there is none.
func weighed(w []int64, n int) (int64, api.Errno) {
	if len(w) != n || n > api.MaxSeen {
		return 0, api.ErrArg
	}
	if !weighty(w) {
		return 0, api.ErrMean
	}
	total, _ := fixed.Sum(w) // at most 2^39
	if total == 0 {
		return 0, api.ErrMean
	}
	return total, api.OK
}

// weighty says whether all of w may be weights.
func weighty(w []int64) bool {
	for _, x := range w {
		if x < 0 || x > maxWeight {
			return false
		}
	}
	return true
}

// nearest is sum over total, to the nearest and halves up; it is a mean of 8-bit numbers, and so one itself.
func nearest(sum, total int64) int8 {
	q, _, _ := fixed.Floor(2*sum+total, 2*total)
	return int8(q)
}
