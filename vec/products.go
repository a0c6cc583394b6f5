package vec

import "herald/api"

// Transpose is the matrix whose rows are the columns of w.
func Transpose(w []int8, cols int) ([]int8, api.Errno) {
	rows, e := rowsOf(w, cols)
	if e != api.OK {
		return nil, e
	}
	return transposed(w, rows, cols), api.OK
}

// Product is the product of two matrices.
func Product(a []int8, ca int, b []int8, cb int) ([]int64, api.Errno) {
	if e := bothBounded(a, b); e != api.OK {
		return nil, e
	}
	rows, e := rowsOf(a, ca)
	if e != api.OK {
		return nil, e
	}
	inner, e := rowsOf(b, cb)
	if e != api.OK {
		return nil, e
	}
	if inner != ca {
		return nil, api.ErrLengths
	}
	if rows*cb > api.MaxCells { // b has a row, so that cb is no more than its numbers, and nothing wraps
		return nil, api.ErrCells
	}
	columns := transposed(b, inner, cb)
	product := make([]int64, 0, rows*cb)
	for ; len(a) > 0; a = a[ca:] {
		product = appendTimes(product, columns, a[:ca])
	}
	return product, api.OK
}

// transposed is the columns of w as rows. It goes by w's rows, as columns that there are without a row could be too many to walk.
func transposed(w []int8, rows, cols int) []int8 {
	out := make([]int8, len(w))
	for i := range rows {
		for j, x := range w[i*cols : (i+1)*cols] {
			out[j*rows+i] = x
		}
	}
	return out
}
