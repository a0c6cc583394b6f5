package kv_test

import (
	"slices"
	"testing"

	"herald/api"
)

// 18.1 to 18.5, 18.8: scripts of all calls, by the words of the promises.
func TestScripts(t *testing.T) {
	s := spread(1)
	for round := range 120 {
		b := twice(t, 1+s.below(8), 1+s.below(4), 1+s.below(2), 1+s.below(2))
		for step := range 120 {
			b.step(&s, round+step)
			b.is()
		}
	}
}

// 18.7, 18.10: the free blocks and those that a sequence has are all blocks, and unless something was forked no block belongs to two.
func TestAllBlocks(t *testing.T) {
	s := spread(2)
	for round := range 60 {
		b, forked := twice(t, 1+s.below(9), 1+s.below(4), 1, 1), false
		for step := range 150 {
			if step == 75 && len(b.p.sequences) > 0 && round%2 == 0 {
				forked = true
				b.fork(b.p.opened - 1)
			}
			seq := s.below(b.p.opened + 1)
			switch s.below(8) {
			case 0:
				b.open()
			case 1:
				b.release(seq)
			case 2:
				b.truncate(seq, s.below(8))
			default:
				b.append(seq, step)
			}
			owners := make([]int, b.p.blocks)
			for seq := range b.p.sequences {
				l, _ := b.s.Blocks(seq)
				for _, block := range l {
					owners[block]++
				}
			}
			free := 0
			for block, n := range owners {
				if n == 0 {
					free++
				}
				if n > 1 && !forked || n != b.s.Sharers(block) {
					t.Fatalf("block %d belongs to %d", block, n)
				}
			}
			isFree(t, b.s, free)
		}
	}
}

// 18.7: appended and then cut off again, a sequence is as before; a shared last block may be another one then.
func TestThereAndBack(t *testing.T) {
	s := spread(3)
	for range 150 {
		b := twice(t, 1+s.below(8), 1+s.below(4), 1, 1)
		for step := range 30 {
			b.step(&s, step)
		}
		for seq, q := range b.p.sequences {
			n, blocks, free := len(q.places), slices.Clone(q.blocks), b.s.Free()
			shared := len(blocks) > 0 && b.s.Sharers(blocks[len(blocks)-1]) > 1
			for i := range 1 + s.below(9) {
				b.append(seq, 200+i)
			}
			b.truncate(seq, n)
			b.is()
			if shared && len(blocks) > 0 {
				continue
			}
			hasBlocks(t, b.s, seq, blocks...)
			isFree(t, b.s, free)
		}
	}
}

// 18.7: Room appends go well, and one more does not.
func TestRoomIsTrue(t *testing.T) {
	s := spread(4)
	for range 150 {
		b := twice(t, 1+s.below(8), 1+s.below(4), 1, 1)
		b.open()
		for step := range 40 {
			b.step(&s, step)
		}
		for seq := range b.p.sequences {
			for i := range b.s.Room(seq) {
				answers(t, "Append", b.append(seq, i), api.OK)
			}
			answers(t, "Append", b.append(seq, 9), api.ErrNoBlock)
			hasRoomOf(t, b, seq)
			b.truncate(seq, s.below(len(b.p.sequences[seq].places)+1))
		}
		b.is()
	}
}

// hasRoomOf asks a sequence to have no room.
func hasRoomOf(t *testing.T, b both, seq int) {
	t.Helper()
	if n := b.s.Room(seq); n != 0 {
		t.Fatalf("Room(%d): %d", seq, n)
	}
}

// 18.7: when all sequences are released, every block is free.
func TestAllReleased(t *testing.T) {
	s := spread(5)
	for range 150 {
		b := twice(t, 1+s.below(8), 1+s.below(4), 1, 1)
		for step := range 60 {
			b.step(&s, step)
		}
		for seq := range b.p.opened {
			b.s.Release(seq)
		}
		isFree(t, b.s, b.p.blocks)
		for block := range b.p.blocks {
			if b.s.Sharers(block) != 0 {
				t.Fatal("Sharers", block, b.s.Sharers(block))
			}
		}
	}
}

// 18.10: a fork costs no block until one of both goes on, and then one at most for each, as long as no place more than the last block has is taken.
func TestCostOfAFork(t *testing.T) {
	for page := 1; page < 6; page++ {
		for places := 1; places < 12; places++ {
			for _, first := range []int{0, 1} {
				b := lent(t, 20, page, places, 0)
				free := b.s.Free()
				b.fork(0)
				isFree(t, b.s, free)
				for i := range max(1, (page-places%page)%page) {
					b.append(first, 70+i)
					isFree(t, b.s, free-1)
				}
				cost := 1
				if places%page == 0 { // a full block is no one's to go on in: each takes a new one
					cost = 2
				}
				b.append(1-first, 80)
				isFree(t, b.s, free-cost)
				b.is()
			}
		}
	}
}

// R5: two stores, asked in turns, have no part in one another; the same done to two, they answer the same.
func TestTwoStores(t *testing.T) {
	s, r := spread(6), spread(6)
	a, b := twice(t, 6, 2, 1, 1), twice(t, 6, 2, 1, 1)
	other := twice(t, 6, 2, 1, 1)
	o := spread(99)
	for step := range 300 {
		a.step(&s, step)
		other.step(&o, -step)
		b.step(&r, step)
		is(t, a.s, b.p)
		is(t, b.s, a.p)
		other.is()
	}
}
