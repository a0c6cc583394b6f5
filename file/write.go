package file

import (
	"herald/api"
	"herald/wire"
)

// written is the file of a valid model, whose numbers all have room in their bytes.
func written(m api.Model) string {
	w := wire.NewWriter()
	w.Raw(magic)
	for _, size := range sizesOf(&m.Shape) {
		w.Number(*size, sizeBytes)
	}
	writePart(w, headOf(&m))
	writeVocab(w, m.Vocab)
	for _, p := range bodyOf(&m) {
		writePart(w, p)
	}
	s := w.Bytes()
	return s + digest(s)
}

func writeVocab(w *wire.Writer, v api.Vocab) {
	for _, text := range v.Texts {
		w.Number(len(text), lengthBytes)
		w.Raw(text)
	}
	w.Number(len(v.Merges), sizeBytes)
	for _, merge := range v.Merges {
		for _, token := range tokensOf(&merge) {
			w.Number(*token, tokenBytes)
		}
	}
}

func writePart(w *wire.Writer, p part) {
	for _, shift := range p.shifts {
		w.Number(*shift, shiftBytes)
	}
	if p.row != nil {
		w.Row(*p.row)
	}
}
