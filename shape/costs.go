package shape

import (
	"slices"

	"herald/api"
)

// Costs is what a model of a shape costs where so many places stand.
func Costs(s api.Shape, places int) (api.Cost, api.Errno) {
	numbers, e := Numbers(s)
	if e != api.OK {
		return api.Cost{}, e
	}
	if !within(places, 0, s.Context) {
		return api.Cost{}, api.ErrArg
	}
	p, pair := sizesOf(s), 2*s.Dim*places // a key and a value for each place: in one layer
	return api.Cost{
		Numbers:   numbers,
		PairBytes: s.Layers * pair,
		Pass:      s.Layers * (4*p.square + pair + 3*p.inner),
		Score:     p.words,
	}, api.OK
}

// Preset is the shape of a name.
func Preset(name string) (api.Shape, api.Errno) {
	switch name {
	case "tiny":
		return api.Shape{Vocab: 3, Context: 8, Dim: 2, Heads: 1, Layers: 1, Hidden: 2}, api.OK
	case "small":
		return api.Shape{Vocab: 64, Context: 64, Dim: 8, Heads: 2, Layers: 2, Hidden: 16}, api.OK
	case "medium":
		return api.Shape{Vocab: 256, Context: 256, Dim: 32, Heads: 4, Layers: 4, Hidden: 96}, api.OK
	case "large":
		return api.Shape{Vocab: 512, Context: 512, Dim: 64, Heads: 8, Layers: 8, Hidden: 256}, api.OK
	}
	return api.Shape{}, api.ErrShape
}

// Cut is a model with its first layers alone.
func Cut(m api.Model, layers int) (api.Model, api.Errno) {
	if _, e := Valid(m); e != api.OK {
		return api.Model{}, e
	}
	if !within(layers, 1, m.Shape.Layers) {
		return api.Model{}, api.ErrShape
	}
	m.Shape.Layers = layers
	m.Vocab = api.Vocab{Texts: slices.Clone(m.Vocab.Texts), Merges: slices.Clone(m.Vocab.Merges)}
	own(&m.Embed, &m.Cos, &m.Sin, &m.Bend, &m.Gain, &m.Unembed)
	m.Blocks = slices.Clone(m.Blocks[:layers])
	for i := range m.Blocks {
		b := &m.Blocks[i]
		own(&b.Gain1, &b.Q, &b.K, &b.V, &b.O, &b.Gain2, &b.Middle.Gate, &b.Middle.Up, &b.Middle.Down)
	}
	return m, api.OK
}

// own makes each of some lists one that shares nothing with what it was.
func own(lists ...*[]int8) {
	for _, l := range lists {
		*l = slices.Clone(*l)
	}
}
