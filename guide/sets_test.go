package guide

import (
	"slices"
	"strings"
	"testing"

	"herald/api"
)

// rows is rows of atoms, each atom a byte.
type rows map[string]bool

// behind is all rows of one kind with one of another behind each, of at most so many atoms.
func (r rows) behind(ahead rows, most int) rows {
	all := rows{}
	for a := range ahead {
		for b := range r {
			if len(a)+len(b) <= most {
				all[a+b] = true
			}
		}
	}
	return all
}

// with is the rows of both.
func (r rows) with(others rows) rows {
	all := rows{}
	for a := range r {
		all[a] = true
	}
	for a := range others {
		all[a] = true
	}
	return all
}

// spelled is a pattern as rows of atoms: those that it says, and those that begin one.
type spelled struct {
	says, begins rows
}

func nothing() spelled { return spelled{rows{"": true}, rows{"": true}} }

func (x spelled) and(y spelled, most int) spelled {
	return spelled{y.says.behind(x.says, most), x.begins.with(y.begins.behind(x.says, most))}
}

func (x spelled) or(y spelled) spelled {
	return spelled{x.says.with(y.says), x.begins.with(y.begins)}
}

// again is a pattern once, twice and so on.
func (x spelled) again(most int) spelled {
	all := x
	for {
		next := x.or(all.and(x, most))
		if len(next.says) == len(all.says) && len(next.begins) == len(all.begins) {
			return all
		}
		all = next
	}
}

// speller writes patterns out by the chapter's words.
type speller struct {
	atoms []byteSet
	most  int
}

func (w *speller) spell(p part) spelled {
	switch p.kind {
	case oneByte:
		w.atoms = append(w.atoms, p.bytes)
		name := string([]byte{byte(len(w.atoms) - 1)})
		return spelled{rows{name: true}, rows{"": true, name: true}}
	case inRow:
		all := nothing()
		for _, piece := range p.parts {
			all = all.and(w.spell(piece), w.most)
		}
		return all
	case oneOf:
		all := w.spell(p.parts[0])
		for _, row := range p.parts[1:] {
			all = all.or(w.spell(row))
		}
		return all
	}
	return w.times(p.parts[0], p.least, p.most)
}

func (w *speller) times(x part, least, most int) spelled {
	if least == 0 && most == endless {
		return nothing().or(w.spell(x).again(w.most))
	}
	all := nothing()
	for range least - 1 {
		all = all.and(w.spell(x), w.most)
	}
	if most == endless {
		return all.and(w.spell(x).again(w.most), w.most)
	}
	if least > 0 {
		all = all.and(w.spell(x), w.most)
	}
	return all.and(w.upTo(x, most-least), w.most)
}

// upTo is (x(x(..)?)?)?.
func (w *speller) upTo(x part, n int) spelled {
	if n == 0 {
		return nothing()
	}
	return nothing().or(w.spell(x).and(w.upTo(x, n-1), w.most))
}

// lastAtoms is the atoms by which a text's last byte can have been read, all bytes ahead of it by atoms ahead.
func (w *speller) lastAtoms(begins rows, text string) string {
	var l []byte
	for row := range begins {
		if len(row) == len(text) && w.reads(row, text) && !slices.Contains(l, row[len(row)-1]) {
			l = append(l, row[len(row)-1])
		}
	}
	slices.Sort(l)
	return string(l)
}

func (w *speller) reads(row, text string) bool {
	for i := range len(row) {
		if !w.atoms[row[i]][text[i]] {
			return false
		}
	}
	return true
}

// 15.8: the sets that come up are those of the words: texts lead to one state just if they lead to one set.
func TestSets(t *testing.T) {
	const most = 4
	texts := []string{"a", "b", "c"}
	for from := 0; len(texts) < 3+9+27+81; from++ {
		for _, b := range []string{"a", "b", "c"} {
			texts = append(texts, texts[from]+b)
		}
	}
	for _, pattern := range strings.Fields(`a ab a|b a* a+ a? (ab)* (a|b)*a (a|b)*a[ab] a{3} a{2,} a{0,} a{1,} a{0,3} a{1,3} [ab]{0,3} [ab]{1,2}a (a?b?)* (a*b*)+ (a+|b)?c*
		(ab?){0,2} (a|bc){1,2} (a?){3} (a*){2} ((a|b){0,2}c)* (a{2}){0,2} (a{0,2}){2} (a{1,2}b?){2} a[^\x00-\xff]b [^\x00-\xff]*a (a[^\x00-\xff])?b ([ab]*|c)[bc] .*a. ()a()* a{0}b a?a?a? (a(a(a)?)?)?
		[ab]*a[ab]{2} ([ab]{2,}c?)* (a|ab)(c|bc) (|a)(|b)(|c) a*a*b a{2,3}|a{1,2} (a?b){2,} (a{0,}){1,2} ((ab)+c?)+ [abc]*b(a|c){1,2} (a{2}|b{0,2})* ([^a]b?|a){1,3}`) {
		whole, _, e := parse(pattern)
		if e != api.OK {
			t.Fatal(pattern, e)
		}
		m, ok := bySets(whole)
		if !ok {
			t.Fatal(pattern)
		}
		w := &speller{most: most}
		begins := w.spell(whole).begins
		if whole.written != len(w.atoms) {
			t.Errorf("%q: %d atoms and not %d", pattern, whole.written, len(w.atoms))
		}
		states, sets := map[string]int{}, map[int]string{}
		for _, text := range texts {
			set, state := w.lastAtoms(begins, text), m.walk(0, text)
			if (set == "") != (state == nowhere) {
				t.Errorf("%q: %q leads to %q, %d", pattern, text, set, state)
			}
			known, met := states[set]
			other, isMet := sets[state]
			if state == 0 || met && known != state || isMet && other != set {
				t.Errorf("%q: %q leads to %q, %d", pattern, text, set, state)
			}
			states[set], sets[state] = state, set
		}
		for state := range m.steps {
			if _, met := sets[state]; state > 0 && !met && len(m.steps) < 6 {
				t.Errorf("%q: no text leads to %d", pattern, state)
			}
		}
	}
}
