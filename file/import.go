package file

import (
	"slices"

	"herald/act"
	"herald/api"
	"herald/rope"
	"herald/shape"
	"herald/single"
)

const (
	gainScale     = 6  // of gains: 64 leaves a number as it is
	embedScale    = 8  // of the row that goes through the blocks: what Embed's scale lacks of it is its shift
	outward       = 2  // by so much less are numbers brought down that are added to that row, or said
	maxEmbedShift = 24 // as chapter 16 has it
	maxShift      = 31 // of all other shifts
)

// Import is the model of numbers as singles.
func Import(s api.Shape, v api.Vocab, x api.Singles) (api.Model, api.Errno) {
	if e := shape.Check(s); e != api.OK {
		return api.Model{}, e
	}
	if !goInto(s, x) {
		return api.Model{}, api.ErrSingles
	}
	var q quantiser
	m := q.model(s, x)
	m.Vocab = v
	if q.e == api.OK {
		_, q.e = shape.Valid(m)
	}
	if q.e != api.OK {
		return api.Model{}, q.e
	}
	m.Vocab = api.Vocab{Texts: slices.Clone(v.Texts), Merges: slices.Clone(v.Merges)}
	return m, api.OK
}

// goInto tells whether there are just as many blocks and numbers as the shape has.
func goInto(s api.Shape, x api.Singles) bool {
	words := s.Vocab * s.Dim
	if len(x.Blocks) != s.Layers || !areAll(words, x.Embed, x.Unembed) || !areAll(s.Dim, x.Gain) {
		return false
	}
	for _, b := range x.Blocks {
		if !areAll(s.Dim, b.Gain1, b.Gain2) || !areAll(s.Dim*s.Dim, b.Q, b.K, b.V, b.O) || !areAll(s.Hidden*s.Dim, b.Gate, b.Up, b.Down) {
			return false
		}
	}
	return true
}

// areAll tells whether each of some lists has so many numbers.
func areAll(size int, lists ...[]uint32) bool {
	for _, l := range lists {
		if len(l) != size {
			return false
		}
	}
	return true
}

// quantiser turns lists into numbers of 8 bits and their shifts. It goes on behind an error: a single that is not finite, wherever it stands, is told ahead of numbers that are too great or too small.
type quantiser struct{ e api.Errno }

// model is the model of a shape and numbers that go into it, but for its vocabulary.
func (q *quantiser) model(s api.Shape, x api.Singles) api.Model {
	m := api.Model{Shape: s, Gain: q.gain(x.Gain)}
	embed, scale := q.row(x.Embed)
	m.Embed, m.EmbedShift = embed, q.shift(embedScale-scale, maxEmbedShift)
	m.Cos, m.Sin, _ = rope.Table(s.Context, shape.Half(s))
	for _, b := range x.Blocks {
		m.Blocks = append(m.Blocks, q.block(b))
	}
	m.Bend, _ = act.Table(api.BendSoft)
	m.Unembed, m.LogitS = q.matrix(x.Unembed, outward)
	return m
}

func (q *quantiser) block(x api.SinglesBlock) api.Block {
	b := api.Block{Gain1: q.gain(x.Gain1), Gain2: q.gain(x.Gain2), ScoreS: q.shift(x.ScoreS, maxShift)}
	b.Q, b.QS = q.matrix(x.Q, 0)
	b.K, b.KS = q.matrix(x.K, 0)
	b.V, b.VS = q.matrix(x.V, 0)
	b.O, b.OS = q.matrix(x.O, outward)
	b.Middle.Gate, b.Middle.GateS = q.matrix(x.Gate, 0)
	b.Middle.Up, b.Middle.UpS = q.matrix(x.Up, 0)
	b.Middle.Down, b.Middle.DownS = q.matrix(x.Down, outward)
	return b
}

// matrix is a list at its own scale, and the shift that is by so much less than that.
func (q *quantiser) matrix(l []uint32, less int) ([]int8, int) {
	row, scale := q.row(l)
	return row, q.shift(scale-less, maxShift)
}

// row is a list at its own scale.
func (q *quantiser) row(l []uint32) ([]int8, int) {
	row, scale, e := single.Quantise(l)
	q.fault(e)
	return row, scale
}

// gain is a list at the scale of all gains.
func (q *quantiser) gain(l []uint32) []int8 {
	row, e := single.At(l, gainScale)
	q.fault(e)
	return row
}

// shift is a shift that must be from 0 to most.
func (q *quantiser) shift(shift, most int) int {
	if shift < 0 || shift > most {
		q.fault(api.ErrScale)
	}
	return shift
}

// fault notes what a list or a shift came to.
func (q *quantiser) fault(e api.Errno) {
	switch {
	case e == api.ErrFinite:
		q.e = api.ErrFinite
	case e == api.ErrScale && q.e == api.OK:
		q.e = api.ErrScales
	}
}
