package guide

import (
	"strings"

	"herald/api"
)

const (
	textEnd = -1 // what stands behind the last byte
	endless = -1 // the most repetitions of what may come any number of times

	// The signs, and those of a class: what a backslash makes stand for itself.
	signs      = `\|()[]{}.*+?^$`
	classSigns = signs + "-"
	// What doesn't stand for itself in a class without a backslash; outside of one all signs don't.
	classOwn = `\][^-`
)

// kind is what a part of a pattern is.
type kind int

const (
	oneByte  kind = iota
	inRow         // its parts, one behind the other
	oneOf         // its parts, one of them
	repeated      // its only part, from least to most times
)

// part is a part of a pattern.
type part struct {
	kind        kind
	bytes       byteSet
	parts       []part
	least, most int
	written     int // atoms, written out; MaxWritten + 1, if they are more
}

// few is a number of atoms, no greater than it takes to see that they are too many: how often repetitions within repetitions come has no bound.
func few(atoms int) int { return min(atoms, api.MaxWritten+1) }

func byteOf(bytes byteSet) part { return part{kind: oneByte, bytes: bytes, written: 1} }

// partsAs is a row of parts, or the choice of one.
func partsAs(k kind, parts []part) part {
	atoms := 0
	for _, p := range parts {
		atoms = few(atoms + p.written)
	}
	return part{kind: k, parts: parts, written: atoms}
}

func repeat(p part, least, most int) part {
	copies := most
	if most == endless {
		copies = max(least, 1)
	}
	return part{kind: repeated, parts: []part{p}, least: least, most: most, written: few(copies * p.written)}
}

// parse is what a pattern is made of, or its first fault.
func parse(pattern string) (part, int, api.Errno) {
	r := &reader{text: pattern[:min(len(pattern), api.MaxPattern)]}
	whole, ok := r.choice()
	if ok && r.next() != textEnd {
		ok = r.refuse() // a bracket that shuts none
	}
	if !ok {
		return part{}, r.place, r.fault
	}
	if len(pattern) > api.MaxPattern {
		return part{}, api.MaxPattern, api.ErrPattern
	}
	return whole, 0, api.OK
}

// reader reads a pattern from the front on, up to its first fault. Its functions answer false, when that is met.
type reader struct {
	text  string
	at    int
	place int // of the fault
	fault api.Errno
}

// next is the byte that is read next, or textEnd.
func (r *reader) next() int {
	if r.at == len(r.text) {
		return textEnd
	}
	return int(r.text[r.at])
}

// takes reads a byte, if it is the next one.
func (r *reader) takes(b byte) bool {
	if r.next() != int(b) {
		return false
	}
	r.at++
	return true
}

// refuse says that what is next goes on with no pattern.
func (r *reader) refuse() bool { return r.refuseAt(r.at, api.ErrPattern) }

func (r *reader) refuseAt(place int, fault api.Errno) bool {
	r.place, r.fault = place, fault
	return false
}

// choice reads alternatives.
func (r *reader) choice() (part, bool) {
	var rows []part
	for {
		row, ok := r.row()
		if !ok {
			return part{}, false
		}
		rows = append(rows, row)
		if !r.takes('|') {
			return partsAs(oneOf, rows), true
		}
	}
}

// row reads pieces.
func (r *reader) row() (part, bool) {
	var pieces []part
	for r.next() != textEnd && r.next() != '|' && r.next() != ')' {
		atom, ok := r.atom()
		if !ok {
			return part{}, false
		}
		piece, ok := r.repetition(atom)
		if !ok {
			return part{}, false
		}
		pieces = append(pieces, piece)
	}
	return partsAs(inRow, pieces), true
}

// atom reads an atom.
func (r *reader) atom() (part, bool) {
	switch {
	case r.takes('('):
		inner, ok := r.choice()
		if ok && !r.takes(')') {
			ok = r.refuse()
		}
		return inner, ok
	case r.takes('.'):
		return byteOf(alone('\n').not()), true
	case r.takes('['):
		return r.class()
	}
	bytes, ok := r.letter(signs, signs)
	return byteOf(bytes), ok
}

// class reads the rest of a class.
func (r *reader) class() (part, bool) {
	isOther := r.takes('^')
	var bytes byteSet
	for isEmpty := true; isEmpty || !r.takes(']'); isEmpty = false {
		member, ok := r.member()
		if !ok {
			return part{}, false
		}
		bytes = bytes.or(member)
	}
	if isOther {
		bytes = bytes.not()
	}
	return byteOf(bytes), true
}

// member reads a member of a class.
func (r *reader) member() (byteSet, bool) {
	bytes, ok := r.letter(classOwn, classSigns)
	low, isSingle := bytes.only()
	if !ok || !isSingle || !r.takes('-') {
		return bytes, ok
	}
	place := r.at
	bytes, ok = r.letter(classOwn, classSigns)
	if !ok {
		return byteSet{}, false
	}
	high, isSingle := bytes.only()
	if !isSingle {
		return byteSet{}, r.refuseAt(place+1, api.ErrPattern) // the backslash alone may have begun a single byte
	}
	if low > high {
		return byteSet{}, r.refuseAt(place, api.ErrPattern)
	}
	return between(low, high), true
}

// letter reads a byte that stands for itself, as all do but own, or a backslash and a sign, as escaped are.
func (r *reader) letter(own, escaped string) (byteSet, bool) {
	if r.takes('\\') {
		return r.sign(escaped)
	}
	c := r.next()
	if c < ' ' || c > '~' || strings.IndexByte(own, byte(c)) >= 0 {
		return byteSet{}, r.refuse()
	}
	r.at++
	return alone(byte(c)), true
}

// sign reads what stands behind a backslash.
func (r *reader) sign(escaped string) (byteSet, bool) {
	var bytes byteSet
	switch c := r.next(); c {
	case 'n':
		bytes = alone('\n')
	case 'r':
		bytes = alone('\r')
	case 't':
		bytes = alone('\t')
	case 'd':
		bytes = between('0', '9')
	case 'w':
		bytes = between('a', 'z').or(between('A', 'Z')).or(between('0', '9')).or(alone('_'))
	case 's':
		bytes = listed(" \t\n\r")
	case 'x':
		r.at++
		return r.hexByte()
	default:
		if c == textEnd || strings.IndexByte(escaped, byte(c)) < 0 {
			return byteSet{}, r.refuse()
		}
		bytes = alone(byte(c))
	}
	r.at++
	return bytes, true
}

// hexByte reads two digits to the base 16.
func (r *reader) hexByte() (byteSet, bool) {
	n := 0
	for range 2 {
		switch c := r.next(); {
		case c >= '0' && c <= '9':
			n = n*16 + c - '0'
		case c >= 'a' && c <= 'f':
			n = n*16 + c - 'a' + 10
		default:
			return byteSet{}, r.refuse()
		}
		r.at++
	}
	return alone(byte(n)), true
}

// repetition reads the sign of repetition behind an atom, if there is one.
func (r *reader) repetition(atom part) (part, bool) {
	switch {
	case r.takes('*'):
		return repeat(atom, 0, endless), true
	case r.takes('+'):
		return repeat(atom, 1, endless), true
	case r.takes('?'):
		return repeat(atom, 0, 1), true
	case r.takes('{'):
		least, most, ok := r.numbers(r.at - 1)
		return repeat(atom, least, most), ok
	}
	return atom, true
}

// numbers reads the rest of a sign of repetition with numbers, which begins at a place.
func (r *reader) numbers(place int) (least, most int, ok bool) {
	if least, ok = r.number(); !ok {
		return 0, 0, false
	}
	most = least
	if r.takes(',') {
		most = endless
		if r.next() != '}' {
			if most, ok = r.number(); !ok {
				return 0, 0, false
			}
		}
	}
	if !r.takes('}') {
		return 0, 0, r.refuse()
	}
	if max(least, most) > api.MaxRepeat || most != endless && least > most {
		return 0, 0, r.refuseAt(place, api.ErrRepeat)
	}
	return least, most, true
}

// number reads a number, which is MaxRepeat + 1, if it is greater. Behind a 0 ahead no digit is read.
func (r *reader) number() (int, bool) {
	from, n := r.at, 0
	for c := r.next(); c >= '0' && c <= '9' && (n > 0 || r.at == from); c = r.next() {
		n = min(n*10+c-'0', api.MaxRepeat+1)
		r.at++
	}
	if r.at == from {
		return 0, r.refuse()
	}
	return n, true
}
