package file

import (
	"herald/api"
	"herald/fixed"
	"herald/shape"
	"herald/vec"
)

const maxAdapterShift = 31

// Merge is a model with adapters merged in.
func Merge(m api.Model, l []api.Adapter) (api.Model, int, api.Errno) {
	// A cut by no layer is a copy, which alone is changed.
	n, e := shape.Cut(m, m.Shape.Layers)
	if e != api.OK {
		return api.Model{}, -1, e
	}
	for i, a := range l {
		if !fits(a, n.Shape) {
			return api.Model{}, i, api.ErrAdapter
		}
		add(a, matrixOf(n.Blocks[a.Block], a.Part), n.Shape.Dim)
	}
	if _, e := shape.Valid(n); e != api.OK {
		return api.Model{}, len(l), e
	}
	return n, 0, api.OK
}

// fits tells whether an adapter goes into models of a shape.
func fits(a api.Adapter, s api.Shape) bool {
	return 0 <= a.Block && a.Block < s.Layers &&
		api.AdaptQ <= a.Part && a.Part <= api.AdaptO &&
		1 <= a.Rank && a.Rank <= api.MaxRank &&
		0 <= a.Shift && a.Shift <= maxAdapterShift &&
		len(a.A) == a.Rank*s.Dim && len(a.B) == s.Dim*a.Rank
}

// matrixOf is the matrix of a block that a part of an adapter names.
func matrixOf(b api.Block, part int) []int8 {
	switch part {
	case api.AdaptQ:
		return b.Q
	case api.AdaptK:
		return b.K
	case api.AdaptV:
		return b.V
	}
	return b.O
}

// add adds an adapter that fits to its matrix.
func add(a api.Adapter, matrix []int8, dim int) {
	sums, _ := vec.Product(a.B, a.Rank, a.A, dim)
	for i, sum := range sums {
		rounded, _ := fixed.Round(sum, a.Shift)
		matrix[i] = fixed.Narrow(int64(matrix[i]) + rounded)
	}
}
