package shape

import (
	"slices"

	"herald/api"
	"herald/vocab"
)

// both is the lists of one part of two models.
type both[T any] struct{ a, b []T }

// alike tells whether of each part both lists are the same, number by number.
func alike[T comparable](parts ...both[T]) bool {
	for _, p := range parts {
		if !slices.Equal(p.a, p.b) {
			return false
		}
	}
	return true
}

// Same tells whether two models are the same in all.
func Same(a, b api.Model) bool {
	return a.Shape == b.Shape && a.EmbedShift == b.EmbedShift && a.LogitS == b.LogitS &&
		vocab.Same(a.Vocab, b.Vocab) && slices.EqualFunc(a.Blocks, b.Blocks, sameBlock) &&
		alike(both[int8]{a.Embed, b.Embed}, both[int8]{a.Cos, b.Cos}, both[int8]{a.Sin, b.Sin},
			both[int8]{a.Bend, b.Bend}, both[int8]{a.Gain, b.Gain}, both[int8]{a.Unembed, b.Unembed})
}

// sameBlock tells whether two blocks are the same in all.
func sameBlock(a, b api.Block) bool {
	return shiftsOf(a) == shiftsOf(b) &&
		alike(both[int8]{a.Gain1, b.Gain1}, both[int8]{a.Gain2, b.Gain2},
			both[int8]{a.Q, b.Q}, both[int8]{a.K, b.K}, both[int8]{a.V, b.V}, both[int8]{a.O, b.O},
			both[int8]{a.Middle.Gate, b.Middle.Gate}, both[int8]{a.Middle.Up, b.Middle.Up}, both[int8]{a.Middle.Down, b.Middle.Down})
}

// Fitting tells whether a model is valid and has just that vocabulary.
func Fitting(m api.Model, v api.Vocab) bool {
	_, e := Valid(m)
	return e == api.OK && vocab.Same(m.Vocab, v)
}
