package kv

import (
	"slices"

	"herald/api"
)

// sequence is so many places, in blocks of these numbers.
type sequence struct {
	length int
	blocks []int
}

// find is the sequence of a number.
func (s *Store) find(seq int) (*sequence, api.Errno) {
	if s == nil {
		return nil, api.ErrSequence
	}
	if q := s.sequences[seq]; q != nil {
		return q, api.OK
	}
	return nil, api.ErrSequence
}

// left is how many places the last block of a sequence has behind the sequence's own.
func (s *Store) left(q *sequence) int { return len(q.blocks)*s.page - q.length }

// shared tells whether the last block of a sequence is another one's, too.
func (s *Store) shared(q *sequence) bool { return s.at(q.blocks[len(q.blocks)-1]).sharers > 1 }

// pair is a copy of the pair at a place of a sequence.
func (s *Store) pair(q *sequence, layer, place int) api.Pair {
	return s.read(s.at(q.blocks[place/s.page]), place%s.page, layer)
}

// Length is how many places a sequence has.
func (s *Store) Length(seq int) (int, api.Errno) {
	q, e := s.find(seq)
	if e != api.OK {
		return 0, e
	}
	return q.length, api.OK
}

// Blocks is the numbers of a sequence's blocks.
func (s *Store) Blocks(seq int) ([]int, api.Errno) {
	q, e := s.find(seq)
	if e != api.OK {
		return nil, e
	}
	return slices.Clone(q.blocks), api.OK
}

// Get is the pair of a layer at a place.
func (s *Store) Get(seq, layer, place int) (api.Pair, api.Errno) {
	q, e := s.find(seq)
	if e != api.OK {
		return api.Pair{}, e
	}
	if layer < 0 || layer >= s.layers || place < 0 || place >= q.length {
		return api.Pair{}, api.ErrPlace
	}
	return s.pair(q, layer, place), api.OK
}

// Past is the pairs of a layer at the first places.
func (s *Store) Past(seq, layer, n int) ([]api.Pair, api.Errno) {
	q, e := s.find(seq)
	if e != api.OK {
		return nil, e
	}
	if layer < 0 || layer >= s.layers || n < 0 || n > q.length {
		return nil, api.ErrPlace
	}
	l := make([]api.Pair, n)
	for place := range l {
		l[place] = s.pair(q, layer, place)
	}
	return l, api.OK
}

// Room is how many places more a sequence can have now.
func (s *Store) Room(seq int) int {
	q, e := s.find(seq)
	if e != api.OK {
		return 0
	}
	left, free := s.left(q), s.Free()
	if left > 0 && s.shared(q) { // what is left is only to be had in a copy, which takes a free block
		if free == 0 {
			return 0
		}
		free--
	}
	return left + free*s.page
}

// Common is how many blocks two sequences share at their beginnings.
func (s *Store) Common(a, b int) (int, api.Errno) {
	x, e := s.find(a)
	if e != api.OK {
		return 0, e
	}
	y, e := s.find(b)
	if e != api.OK {
		return 0, e
	}
	return common(x.blocks, y.blocks), api.OK
}

// common is how long a beginning two lists have in common.
func common(a, b []int) int {
	n := 0
	for n < len(a) && n < len(b) && a[n] == b[n] {
		n++
	}
	return n
}
