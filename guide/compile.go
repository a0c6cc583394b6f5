package guide

import (
	"math/bits"

	"herald/api"
)

// Compile is the least guide of a pattern.
func Compile(pattern string) (api.Guide, int, api.Errno) {
	whole, place, e := parse(pattern)
	if e != api.OK {
		return api.Guide{}, place, e
	}
	if whole.written > api.MaxWritten {
		return api.Guide{}, 0, api.ErrRepeat
	}
	m, ok := bySets(whole)
	if !ok {
		return api.Guide{}, 0, api.ErrStates
	}
	g, e := m.least()
	return g, 0, e
}

// atomSet is atoms of a pattern that is written out, by their numbers.
type atomSet [api.MaxWritten / 64]uint64

func (s *atomSet) add(atom int) { s[atom/64] |= 1 << (atom % 64) }

// or is the atoms of both.
func (s atomSet) or(other atomSet) atomSet {
	for i, word := range other {
		s[i] |= word
	}
	return s
}

// and is the atoms that both have.
func (s atomSet) and(other atomSet) atomSet {
	for i, word := range other {
		s[i] &= word
	}
	return s
}

// each goes over the atoms.
func (s atomSet) each(yield func(atom int) bool) {
	for i, word := range s {
		for ; word != 0; word &= word - 1 {
			if !yield(i*64 + bits.TrailingZeros64(word)) {
				return
			}
		}
	}
}

// ends is what others see of a part that is written out: by which atoms what it says may begin and may end, and whether it says the empty text.
type ends struct {
	first, last atomSet
	saysNothing bool
}

// writing is a pattern that is written out.
type writing struct {
	behind  []atomSet    // of each atom those that may read the byte behind its own
	readers [256]atomSet // of each byte the atoms that can read it
}

// write writes a part out, anew each time.
func (w *writing) write(p part) ends {
	if p.written == 0 {
		return ends{saysNothing: true} // however often nothing is repeated
	}
	switch p.kind {
	case oneByte:
		return w.writeByte(p.bytes)
	case inRow:
		all := ends{saysNothing: true}
		for _, piece := range p.parts {
			all = w.follow(all, w.write(piece))
		}
		return all
	case oneOf:
		var all ends
		for _, row := range p.parts {
			all = all.or(w.write(row))
		}
		return all
	}
	return w.writeTimes(p.parts[0], p.least, p.most)
}

// writeByte writes an atom.
func (w *writing) writeByte(bytes byteSet) ends {
	atom := len(w.behind)
	w.behind = append(w.behind, atomSet{})
	for b, has := range bytes {
		if has {
			w.readers[b].add(atom)
		}
	}
	var s atomSet
	s.add(atom)
	return ends{first: s, last: s}
}

// writeTimes writes a part as often as it may come.
func (w *writing) writeTimes(x part, least, most int) ends {
	var all ends
	if most == endless {
		all = w.writeEndless(x)
		all.saysNothing = all.saysNothing || least == 0
		least-- // the one that comes again and again is one of them
	} else {
		all = w.writeUpTo(x, most-least)
	}
	for range least {
		all = w.follow(w.write(x), all)
	}
	return all
}

// writeEndless writes x+.
func (w *writing) writeEndless(x part) ends {
	all := w.write(x)
	w.link(all.last, all.first)
	return all
}

// writeUpTo writes (x(x(x)?)?)? for up to three times.
func (w *writing) writeUpTo(x part, most int) ends {
	all := ends{saysNothing: true}
	for range most {
		all = w.follow(w.write(x), all)
		all.saysNothing = true
	}
	return all
}

// follow is one part and another one behind it.
func (w *writing) follow(ahead, behind ends) ends {
	w.link(ahead.last, behind.first)
	all := ends{ahead.first, behind.last, ahead.saysNothing && behind.saysNothing}
	if ahead.saysNothing {
		all.first = all.first.or(behind.first)
	}
	if behind.saysNothing {
		all.last = all.last.or(ahead.last)
	}
	return all
}

// link lets atoms stand behind others.
func (w *writing) link(ahead, behind atomSet) {
	for atom := range ahead.each {
		w.behind[atom] = w.behind[atom].or(behind)
	}
}

// or is one part or another one.
func (a ends) or(b ends) ends {
	return ends{a.first.or(b.first), a.last.or(b.last), a.saysNothing || b.saysNothing}
}

// reached is where a text leads in a pattern: to the atoms by which its last byte can have been read; the empty one has no last byte, and leads to the beginning.
type reached struct {
	isBeginning bool
	atoms       atomSet
}

// bySets is the machine of the sets of atoms that come up; false, if they are more than MaxSets.
func bySets(whole part) (*machine, bool) {
	w := &writing{}
	all := w.write(whole)
	accepts := func(r reached) bool {
		return r.isBeginning && all.saysNothing || r.atoms.and(all.last) != atomSet{}
	}
	steps := func(r reached) func(b byte) (reached, bool) {
		behind := w.allBehind(r.atoms)
		if r.isBeginning {
			behind = all.first
		}
		return func(b byte) (reached, bool) {
			to := reached{atoms: behind.and(w.readers[b])}
			return to, to.atoms != atomSet{}
		}
	}
	return explore(reached{isBeginning: true}, 1+api.MaxSets, accepts, steps)
}

// allBehind is the atoms that may read the byte behind one that some of these atoms read.
func (w *writing) allBehind(atoms atomSet) atomSet {
	var all atomSet
	for atom := range atoms.each {
		all = all.or(w.behind[atom])
	}
	return all
}
