package vec

import "herald/api"

// bounded is ErrCells, if a list is too long.
func bounded[T any](l []T) api.Errno {
	if len(l) > api.MaxCells {
		return api.ErrCells
	}
	return api.OK
}

// bothBounded is ErrCells, if one of two lists is too long: asked of both ahead of what else may be wrong with either.
func bothBounded[T any](a, b []T) api.Errno {
	if e := bounded(a); e != api.OK {
		return e
	}
	return bounded(b)
}

// alike is ErrCells, if one of two lists is too long; ErrLengths, if they have not as many elements.
func alike[T any](a, b []T) api.Errno {
	if e := bothBounded(a, b); e != api.OK {
		return e
	}
	if len(a) != len(b) {
		return api.ErrLengths
	}
	return api.OK
}

// rowsOf is how many rows a matrix has; the error, if it is none.
func rowsOf(w []int8, cols int) (int, api.Errno) {
	if e := bounded(w); e != api.OK {
		return 0, e
	}
	if cols < 1 || len(w)%cols != 0 {
		return 0, api.ErrLengths
	}
	return len(w) / cols, api.OK
}
