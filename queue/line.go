package queue

import (
	"cmp"
	"slices"
)

// mostOfARun is how many elements a run has at most.
const mostOfARun = 512

// line is a sorted list of elements. It is cut into runs, of which none is empty, so that an element that is put in or taken out moves those of its run alone and not up to 65535 others.
type line[K cmp.Ordered, V any] struct {
	runs [][]*element[K, V]
}

// order tells which of two elements is ahead. It is Compare's, not that of <, by which what is no number would be found nowhere again.
func order[K cmp.Ordered, V any](a, b *element[K, V]) int {
	if by := cmp.Compare(a.key, b.key); by != 0 {
		return by
	}
	return cmp.Compare(a.came, b.came)
}

// first is the first element of a line that has one.
func (l *line[K, V]) first() *element[K, V] { return l.runs[0][0] }

// last is the last element of a line that has one.
func (l *line[K, V]) last() *element[K, V] { return end(l.runs[len(l.runs)-1]) }

// end is the last element of a run.
func end[K cmp.Ordered, V any](run []*element[K, V]) *element[K, V] { return run[len(run)-1] }

// put lets an element stand where it belongs.
func (l *line[K, V]) put(e *element[K, V]) {
	if len(l.runs) == 0 {
		l.runs = [][]*element[K, V]{{e}}
		return
	}
	run := min(l.runOf(e), len(l.runs)-1) // what is behind all runs is put to the last one
	at, _ := slices.BinarySearchFunc(l.runs[run], e, order)
	l.runs[run] = slices.Insert(l.runs[run], at, e)
	if len(l.runs[run]) > mostOfARun {
		l.cut(run)
	}
}

// take takes an element out of a line that has it.
func (l *line[K, V]) take(e *element[K, V]) {
	run, at := l.place(e)
	l.runs[run] = slices.Delete(l.runs[run], at, at+1)
	if len(l.runs[run]) == 0 {
		l.runs = slices.Delete(l.runs, run, run+1)
	}
}

// ahead is how many elements stand ahead of one that the line has.
func (l *line[K, V]) ahead(e *element[K, V]) int {
	run, at := l.place(e)
	for _, earlier := range l.runs[:run] {
		at += len(earlier)
	}
	return at
}

// place is the run of an element that the line has, and where in that run it stands.
func (l *line[K, V]) place(e *element[K, V]) (int, int) {
	run := l.runOf(e)
	at, _ := slices.BinarySearchFunc(l.runs[run], e, order)
	return run, at
}

// runOf is the first run that does not end ahead of an element.
func (l *line[K, V]) runOf(e *element[K, V]) int {
	run, _ := slices.BinarySearchFunc(l.runs, e, func(run []*element[K, V], e *element[K, V]) int {
		return order(end(run), e)
	})
	return run
}

// cut makes two runs of one.
func (l *line[K, V]) cut(run int) {
	whole := l.runs[run]
	half := len(whole) / 2
	back := slices.Clone(whole[half:])
	clear(whole[half:]) // what is taken out of the new run later is not to live on here
	l.runs[run] = whole[:half]
	l.runs = slices.Insert(l.runs, run+1, back)
}
