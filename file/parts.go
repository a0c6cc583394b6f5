package file

import (
	"strconv"

	"herald/api"
	"herald/shape"
)

const bends = 256 // numbers of a bend

// part is a part of a file that has a fixed size: some shifts, or a row of so many numbers.
type part struct {
	name   string
	shifts []*int
	row    *[]int8 // nil, if it is shifts
	size   int
}

func shiftsOf(name string, shifts ...*int) part { return part{name: name, shifts: shifts} }

func rowOf(name string, row *[]int8, size int) part { return part{name: name, row: row, size: size} }

// bytes is how many bytes a part has: a number of a row is one.
func (p part) bytes() int { return len(p.shifts)*shiftBytes + p.size }

// headOf is the part of a model that stands ahead of the vocabulary.
func headOf(m *api.Model) part { return shiftsOf("shifts", &m.EmbedShift, &m.LogitS) }

// bodyOf is the parts of a model that stand behind the vocabulary, in the file's order: written and read by the same list.
func bodyOf(m *api.Model) []part {
	s := m.Shape
	words, angles := s.Vocab*s.Dim, s.Context*shape.Half(s)
	l := []part{rowOf("embed", &m.Embed, words), rowOf("cos", &m.Cos, angles), rowOf("sin", &m.Sin, angles)}
	for i := range m.Blocks {
		l = append(l, blockOf(&m.Blocks[i], "block "+strconv.Itoa(i)+".", s)...)
	}
	return append(l, rowOf("bend", &m.Bend, bends), rowOf("gain", &m.Gain, s.Dim), rowOf("unembed", &m.Unembed, words))
}

// blockOf is the parts of a block, whose names begin with its own.
func blockOf(b *api.Block, name string, s api.Shape) []part {
	mid, square, inner := &b.Middle, s.Dim*s.Dim, s.Hidden*s.Dim
	return []part{
		shiftsOf(name+"shifts", &b.QS, &b.KS, &b.VS, &b.OS, &b.ScoreS, &mid.GateS, &mid.UpS, &mid.DownS),
		rowOf(name+"gain1", &b.Gain1, s.Dim),
		rowOf(name+"q", &b.Q, square),
		rowOf(name+"k", &b.K, square),
		rowOf(name+"v", &b.V, square),
		rowOf(name+"o", &b.O, square),
		rowOf(name+"gain2", &b.Gain2, s.Dim),
		rowOf(name+"gate", &mid.Gate, inner),
		rowOf(name+"up", &mid.Up, inner),
		rowOf(name+"down", &mid.Down, inner),
	}
}

// sizesOf is the numbers of a shape, in the file's order.
func sizesOf(s *api.Shape) [shapeSizes]*int {
	return [shapeSizes]*int{&s.Vocab, &s.Context, &s.Dim, &s.Heads, &s.Layers, &s.Hidden}
}

// tokensOf is the tokens of a merge, in the file's order.
func tokensOf(m *api.Merge) [mergeTokens]*int { return [mergeTokens]*int{&m.Left, &m.Right, &m.Out} }
