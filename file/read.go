package file

import (
	"herald/api"
	"herald/shape"
	"herald/wire"
)

// reading is a file on its way to a model: with the first error it ends, and what is asked of it afterwards does nothing.
type reading struct {
	bytes    *wire.Reader
	model    api.Model
	sections []api.Section
	e        api.Errno
}

// read is the model of a file, and where its parts stand.
func read(s string) (api.Model, []api.Section, api.Errno) {
	body := len(s) - digestBytes
	if e := wrongEnds(s, body); e != api.OK {
		return api.Model{}, nil, e
	}
	r := reading{bytes: wire.NewReader(s[:body])}
	r.raw(len(magic))
	r.section("magic", len(magic))
	r.all()
	if r.e == api.OK {
		r.e = r.bytes.End()
	}
	if r.e == api.OK {
		_, r.e = shape.Valid(r.model)
	}
	if r.e != api.OK {
		return api.Model{}, nil, r.e
	}
	r.section("digest", len(s))
	return r.model, r.sections, api.OK
}

// wrongEnds is what is wrong with a file's beginning and its end, where the digest stands behind so many bytes.
func wrongEnds(s string, body int) api.Errno {
	switch {
	case body < len(magic):
		return api.ErrShort
	case s[:len(magic)] != magic:
		return api.ErrMagic
	case s[body:] != digest(s[:body]):
		return api.ErrDigest
	}
	return api.OK
}

// all reads what stands between the magic bytes and the digest.
func (r *reading) all() {
	r.shape()
	r.part(headOf(&r.model))
	r.texts()
	r.merges()
	for _, p := range bodyOf(&r.model) {
		r.part(p)
	}
}

// shape reads the shape; one that is not right is not kept, so that nothing behind it is made as great as it says.
func (r *reading) shape() {
	var s api.Shape
	for _, size := range sizesOf(&s) {
		*size = r.number(sizeBytes)
	}
	r.ensure(shape.Check(s) == api.OK, api.ErrShape)
	if r.e == api.OK {
		r.model.Shape = s
		r.model.Blocks = make([]api.Block, s.Layers)
	}
	r.section("shape", r.bytes.At())
}

func (r *reading) texts() {
	texts := make([]string, r.model.Shape.Vocab)
	for i := range texts {
		length := r.number(lengthBytes)
		r.ensure(length <= api.MaxTokenText, api.ErrTexts)
		texts[i] = r.raw(length)
	}
	r.model.Vocab.Texts = texts
	r.section("texts", r.bytes.At())
}

func (r *reading) merges() {
	count := r.number(sizeBytes)
	r.ensure(count <= api.MaxMerges, api.ErrMerge)
	for i := 0; i < count && r.e == api.OK; i++ {
		var merge api.Merge
		for _, token := range tokensOf(&merge) {
			*token = r.number(tokenBytes)
		}
		r.model.Vocab.Merges = append(r.model.Vocab.Merges, merge)
	}
	r.section("merges", r.bytes.At())
}

func (r *reading) part(p part) {
	for _, shift := range p.shifts {
		*shift = r.number(shiftBytes)
	}
	if p.row != nil && r.e == api.OK {
		*p.row, r.e = r.bytes.Row(p.size)
	}
	r.section(p.name, r.bytes.At())
}

func (r *reading) number(bytes int) int {
	if r.e != api.OK {
		return 0
	}
	n, e := r.bytes.Number(bytes)
	r.e = e
	return n
}

func (r *reading) raw(n int) string {
	if r.e != api.OK {
		return ""
	}
	s, e := r.bytes.Raw(n)
	r.e = e
	return s
}

// ensure ends the reading with an error, if something is not so.
func (r *reading) ensure(isSo bool, e api.Errno) {
	if r.e == api.OK && !isSo {
		r.e = e
	}
}

// section notes that a part ends there, which began where the one ahead ends.
func (r *reading) section(name string, to int) {
	from := 0
	if n := len(r.sections); n > 0 {
		from = r.sections[n-1].To
	}
	r.sections = append(r.sections, api.Section{Name: name, From: from, To: to})
}
