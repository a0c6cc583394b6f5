package kv

import (
	"slices"

	"herald/api"
)

// Open is the number of a new sequence without places.
func (s *Store) Open() int {
	if s == nil || s.sequences == nil { // a Store that New didn't make has no sequences either
		return 0
	}
	return s.add(&sequence{})
}

// Fork is the number of a new sequence with the places and the blocks of another one.
func (s *Store) Fork(seq int) (int, api.Errno) {
	q, e := s.find(seq)
	if e != api.OK {
		return 0, e
	}
	for _, number := range q.blocks {
		s.at(number).sharers++
	}
	return s.add(&sequence{length: q.length, blocks: slices.Clone(q.blocks)}), api.OK
}

// add keeps a new sequence, and is its number.
func (s *Store) add(q *sequence) int {
	seq := s.opened
	s.opened++
	s.sequences[seq] = q
	return seq
}

// Append gives a sequence a place more.
func (s *Store) Append(seq int, l []api.Pair) api.Errno {
	q, e := s.find(seq)
	if e != api.OK {
		return e
	}
	if !s.fit(l) {
		return api.ErrPair
	}
	if e := s.ready(q); e != api.OK {
		return e
	}
	last := s.at(q.blocks[len(q.blocks)-1])
	s.write(last, q.length%s.page, l)
	q.length++
	return api.OK
}

// fit tells whether pairs are those of one place.
func (s *Store) fit(l []api.Pair) bool {
	for _, p := range l {
		if len(p.Key) != s.width || len(p.Value) != s.width {
			return false
		}
	}
	return len(l) == s.layers
}

// ready lets the last block of a sequence be one in which it can go on: not full, and no other one's.
func (s *Store) ready(q *sequence) api.Errno {
	if s.left(q) == 0 {
		number, e := s.take(nil)
		if e != api.OK {
			return e
		}
		q.blocks = append(q.blocks, number)
		return api.OK
	}
	if !s.shared(q) {
		return api.OK
	}
	last := &q.blocks[len(q.blocks)-1]
	own := q.length % s.page
	number, e := s.take(s.at(*last).numbers[:own*s.size()])
	if e != api.OK {
		return e
	}
	s.leave([]int{*last})
	*last = number
	return api.OK
}

// Truncate lets a sequence have its first places alone.
func (s *Store) Truncate(seq, n int) api.Errno {
	q, e := s.find(seq)
	if e != api.OK {
		return e
	}
	if n < 0 || n > q.length {
		return api.ErrPlace
	}
	needed := (n + s.page - 1) / s.page
	s.leave(q.blocks[needed:])
	q.length, q.blocks = n, q.blocks[:needed]
	return api.OK
}

// Release lets a sequence be no more.
func (s *Store) Release(seq int) api.Errno {
	q, e := s.find(seq)
	if e != api.OK {
		return e
	}
	s.leave(q.blocks)
	delete(s.sequences, seq)
	return api.OK
}
