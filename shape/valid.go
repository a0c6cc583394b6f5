package shape

import (
	"herald/api"
	"herald/fixed"
	"herald/vec"
	"herald/vocab"
)

const (
	maxEmbedShift = 24
	maxShift      = 31 // of all other shifts
)

// mostIn is the greatest size of a number that O and Down are given.
const mostIn = 127

// part is a list of a model, and how long it should be.
type part[T any] struct {
	list []T
	size int
}

// fit tells whether all of some parts are as long as they should be.
func fit[T any](parts ...part[T]) bool {
	for _, p := range parts {
		if len(p.list) != p.size {
			return false
		}
	}
	return true
}

// Valid tells whether a model is valid, and where it is not.
func Valid(m api.Model) (api.Where, api.Errno) {
	if where, e := wrongPart(m); e != api.OK {
		return where, e
	}
	for i, reach := range reachesOf(m) {
		if reach > api.MaxReach {
			return api.Where{Part: api.PartReach, Number: i}, api.ErrTooFar
		}
	}
	return api.Where{}, api.OK
}

// Reaches is how great numbers can get on their way through a model, be that too great or not.
func Reaches(m api.Model) ([]int64, api.Errno) {
	if _, e := wrongPart(m); e != api.OK {
		return nil, e
	}
	return reachesOf(m), api.OK
}

// wrongPart is the first part of a model that does not fit, whatever its reaches are.
func wrongPart(m api.Model) (api.Where, api.Errno) {
	if e := Check(m.Shape); e != api.OK {
		return api.Where{Part: api.PartShape}, e
	}
	if where, e := wrongVocab(m); e != api.OK {
		return where, e
	}
	p := sizesOf(m.Shape)
	if e := wrongWords(m.Embed, p.words, m.EmbedShift, maxEmbedShift); e != api.OK {
		return api.Where{Part: api.PartEmbed}, e
	}
	for i, angles := range [2][]int8{m.Cos, m.Sin} {
		if !fit(part[int8]{angles, p.angles}) {
			return api.Where{Part: api.PartAngles, Number: i}, api.ErrPart
		}
	}
	if i, e := wrongBlock(m.Blocks, m.Shape.Layers, p); e != api.OK {
		return api.Where{Part: api.PartBlock, Number: i}, e
	}
	if !fit(part[int8]{m.Bend, bends}) {
		return api.Where{Part: api.PartBend}, api.ErrPart
	}
	if !fit(part[int8]{m.Gain, p.gain}) {
		return api.Where{Part: api.PartGain}, api.ErrPart
	}
	if e := wrongWords(m.Unembed, p.words, m.LogitS, maxShift); e != api.OK {
		return api.Where{Part: api.PartUnembed}, e
	}
	return api.Where{}, api.OK
}

// wrongVocab is what is wrong with a model's vocabulary.
func wrongVocab(m api.Model) (api.Where, api.Errno) {
	if place, e := vocab.Check(m.Vocab); e != api.OK {
		return api.Where{Part: api.PartVocab, Number: place}, e
	}
	if texts := m.Vocab.Texts; !fit(part[string]{texts, m.Shape.Vocab}) {
		return api.Where{Part: api.PartVocab, Number: len(texts)}, api.ErrPart
	}
	return api.Where{}, api.OK
}

// wrongWords is what is wrong with one of the two matrices that have a row for each token, and with its shift.
func wrongWords(numbers []int8, size, shift, most int) api.Errno {
	if !fit(part[int8]{numbers, size}) {
		return api.ErrPart
	}
	if !within(shift, 0, most) {
		return api.ErrShifts
	}
	return api.OK
}

// wrongBlock is the first block that is wrong, be it missing or one too many, and what is wrong with it.
func wrongBlock(blocks []api.Block, layers int, p sizes) (int, api.Errno) {
	for i, b := range blocks {
		if i == layers || !isWhole(b, p) {
			return i, api.ErrPart
		}
		for _, shift := range shiftsOf(b) {
			if !within(shift, 0, maxShift) {
				return i, api.ErrShifts
			}
		}
	}
	if len(blocks) < layers {
		return len(blocks), api.ErrPart
	}
	return 0, api.OK
}

// isWhole tells whether all parts of a block have as many numbers as they should have.
func isWhole(b api.Block, p sizes) bool {
	return fit(part[int8]{b.Gain1, p.gain}, part[int8]{b.Gain2, p.gain},
		part[int8]{b.Q, p.square}, part[int8]{b.K, p.square}, part[int8]{b.V, p.square}, part[int8]{b.O, p.square},
		part[int8]{b.Middle.Gate, p.inner}, part[int8]{b.Middle.Up, p.inner}, part[int8]{b.Middle.Down, p.inner})
}

// shiftsOf is all shifts of a block.
func shiftsOf(b api.Block) [8]int {
	return [8]int{b.QS, b.KS, b.VS, b.OS, b.ScoreS, b.Middle.GateS, b.Middle.UpS, b.Middle.DownS}
}

// reachesOf is the reaches of a model whose parts fit: at most 2^31 and 16 times 2^22, so nothing wraps.
func reachesOf(m api.Model) []int64 {
	reach := greatestSize(m.Embed) << m.EmbedShift
	reaches := append(make([]int64, 0, 1+2*len(m.Blocks)), reach)
	for _, b := range m.Blocks {
		reach += mostOut(b.O, m.Shape.Dim, b.OS)
		reaches = append(reaches, reach)
		reach += mostOut(b.Middle.Down, m.Shape.Hidden, b.Middle.DownS)
		reaches = append(reaches, reach)
	}
	return reaches
}

// greatestSize is the greatest size of some numbers.
func greatestSize(numbers []int8) int64 {
	var greatest int64
	for _, x := range numbers {
		greatest = max(greatest, int64(x), -int64(x)) // in 64 bits, as -128 has no other sign in 8
	}
	return greatest
}

// mostOut is the greatest size of a number that comes out of a matrix which is right, whatever goes in.
func mostOut(matrix []int8, cols, shift int) int64 {
	rows, _ := vec.Sizes(matrix, cols)
	var most int64
	for _, size := range rows {
		rounded, _ := fixed.Round(mostIn*size, shift)
		most = max(most, rounded)
	}
	return most
}
