package kv

import (
	"iter"
	"maps"
	"slices"

	"herald/api"
)

// Tree keeps rows of tokens under the numbers of sequences.
type Tree struct {
	most int
	rows map[int][]int
}

// NewTree is a tree without rows.
func NewTree(most int) (*Tree, api.Errno) {
	if !within(most, api.MaxBlocks) {
		return nil, api.ErrStore
	}
	return &Tree{most: most, rows: map[int][]int{}}, api.OK
}

// Put keeps the row of a sequence.
func (t *Tree) Put(tokens []int, seq int) api.Errno {
	if t == nil {
		return api.ErrNoBlock
	}
	if seq < 0 {
		return api.ErrSequence
	}
	if _, has := t.rows[seq]; !has && len(t.rows) >= t.most {
		return api.ErrNoBlock
	}
	t.rows[seq] = slices.Clone(tokens)
	return api.OK
}

// Best is the sequence whose row begins most as tokens do, and how many tokens both have in common.
func (t *Tree) Best(tokens []int) (int, int, bool) {
	if t == nil {
		return 0, 0, false
	}
	best, longest := 0, 0
	for seq, row := range t.rows { // in any order: of several just as long ones the least sequence is told
		n := common(row, tokens)
		if n > longest || n == longest && seq < best {
			best, longest = seq, n
		}
	}
	return best, longest, longest > 0
}

// Drop lets a sequence have no row.
func (t *Tree) Drop(seq int) bool {
	if t == nil {
		return false
	}
	_, had := t.rows[seq]
	delete(t.rows, seq)
	return had
}

// Len is how many rows are kept.
func (t *Tree) Len() int {
	if t == nil {
		return 0
	}
	return len(t.rows)
}

// kept is a row with its sequence.
type kept struct {
	seq    int
	tokens []int
}

// All goes over the rows.
func (t *Tree) All() iter.Seq2[int, []int] {
	all := t.all() // here, not in the closure: what changes from now on is not to be seen
	return func(yield func(int, []int) bool) {
		for _, k := range all {
			if !yield(k.seq, slices.Clone(k.tokens)) { // each time a new list: the one who gets it may write over it
				return
			}
		}
	}
}

// all is the rows by rising sequences.
func (t *Tree) all() []kept {
	if t == nil {
		return nil
	}
	l := make([]kept, 0, len(t.rows))
	for _, seq := range slices.Sorted(maps.Keys(t.rows)) {
		l = append(l, kept{seq, t.rows[seq]}) // Put never writes into a row that is kept
	}
	return l
}
