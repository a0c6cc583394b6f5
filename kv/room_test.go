package kv

import (
	"testing"

	"herald/api"
)

// place is the pairs of one place of a store, all of one number.
func place(s *Store, n int8) []api.Pair {
	l := make([]api.Pair, s.layers)
	for i := range l {
		l[i] = api.Pair{Key: make([]int8, s.width), Value: make([]int8, s.width)}
		for j := range s.width {
			l[i].Key[j], l[i].Value[j] = n, n
		}
	}
	return l
}

// A block needs memory for the places in it, not for all that may be: of the greatest sizes each of 65536 blocks could have 65536 numbers.
func TestRoomIsMadeWhereItIsNeeded(t *testing.T) {
	s, _ := New(api.MaxBlocks, api.MaxPage, mostLayers, mostWidth)
	for range 2000 {
		if e := s.Append(s.Open(), place(s, 1)); e != api.OK {
			t.Fatal("Append:", e)
		}
	}
	sum := 0
	for _, b := range s.blocks.All() {
		sum += cap(b.numbers)
	}
	if sum > 2*2000*s.size() {
		t.Errorf("2000 places of %d numbers have %d", s.size(), sum)
	}
}

// LANGUAGE 8: what was cut off or released is not kept.
func TestNothingIsKept(t *testing.T) {
	s, _ := New(9, 2, 1, 1)
	for range 3 {
		seq := s.Open()
		for range 5 {
			s.Append(seq, place(s, 1))
		}
		fork, _ := s.Fork(seq)
		s.Append(fork, place(s, 2))
		s.Truncate(seq, 1)
		if s.blocks.Used() != 3 || len(s.sequences) != 2 { // the last block of the one that was cut is gone, as its fork went on in a copy
			t.Error("cut off:", s.blocks.Used(), len(s.sequences))
		}
		s.Release(seq)
		s.Release(fork)
		if s.blocks.Used() != 0 || len(s.sequences) != 0 {
			t.Error("released:", s.blocks.Used(), len(s.sequences))
		}
	}
}

// LANGUAGE 8: what is appended stands in the place of what was cut off.
func TestABlockDoesNotGrow(t *testing.T) {
	s, _ := New(1, 3, 2, 2)
	seq := s.Open()
	for i := range 20 {
		s.Append(seq, place(s, 1))
		s.Append(seq, place(s, 2))
		if n := len(s.at(0).numbers); n != 2*s.size() {
			t.Fatal("numbers:", i, n)
		}
		s.Truncate(seq, 1)
		s.Append(seq, place(s, 3))
		if n := len(s.at(0).numbers); n != 2*s.size() {
			t.Fatal("numbers behind a cut:", i, n)
		}
		s.Truncate(seq, 0)
	}
}

// 18.8: a copy has the sequence's own places alone.
func TestACopyHasNoMore(t *testing.T) {
	s, _ := New(9, 4, 2, 3)
	seq := s.Open()
	for range 4 {
		s.Append(seq, place(s, 1))
	}
	fork, _ := s.Fork(seq)
	s.Truncate(fork, 1)
	s.Append(fork, place(s, 2))
	if n := len(s.at(1).numbers); n != 2*s.size() {
		t.Error("numbers of the copy:", n)
	}
}
