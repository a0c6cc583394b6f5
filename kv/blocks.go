package kv

import (
	"slices"

	"herald/api"
)

// block has the numbers of places, one place behind the other, and of each place layer by layer a key and a value.
type block struct {
	numbers []int8 // of as many places as were needed yet: a block of a store of great sizes is mostly empty
	sharers int    // how many sequences have it
}

// size is how many numbers a place has.
func (s *Store) size() int { return s.layers * 2 * s.width }

// rows is the key of a block's place and behind it the value, where they are kept.
func (s *Store) rows(b *block, place, layer int) []int8 {
	at := place*s.size() + layer*2*s.width
	return b.numbers[at : at+2*s.width]
}

// write puts pairs at a place of a block behind those of the sequence that alone has it; what stood there is nobody's.
func (s *Store) write(b *block, place int, l []api.Pair) {
	b.numbers = append(b.numbers[:place*s.size()], make([]int8, s.size())...)
	for layer, p := range l {
		rows := s.rows(b, place, layer)
		copy(rows, p.Key)
		copy(rows[s.width:], p.Value)
	}
}

// read is a copy of the pair at a place of a block.
func (s *Store) read(b *block, place, layer int) api.Pair {
	rows := slices.Clone(s.rows(b, place, layer))
	return api.Pair{Key: rows[:s.width:s.width], Value: rows[s.width:]} // the key can't grow into the value
}

// at is the block of a number; nil, if no sequence has it.
func (s *Store) at(number int) *block {
	b, _ := s.blocks.Get(number)
	return b
}

// take is the free block of the least number, with the numbers of the first places of another one.
func (s *Store) take(first []int8) (int, api.Errno) {
	number, e := s.blocks.Take(&block{numbers: slices.Clone(first), sharers: 1})
	if e != api.OK {
		return 0, api.ErrNoBlock
	}
	return number, api.OK
}

// leave lets a sequence have blocks no more; those that it had alone are free.
func (s *Store) leave(numbers []int) {
	for _, number := range numbers {
		b := s.at(number)
		b.sharers--
		if b.sharers == 0 {
			s.blocks.Give(number)
		}
	}
}

// Sharers is how many sequences have a block.
func (s *Store) Sharers(block int) int {
	if s == nil {
		return 0
	}
	if b := s.at(block); b != nil {
		return b.sharers
	}
	return 0
}
