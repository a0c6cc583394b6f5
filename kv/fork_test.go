package kv_test

import (
	"testing"

	"herald/api"
)

// lent is both, with sequence 0 of so many places and so many forks of it.
func lent(t *testing.T, blocks, page, places, forks int) both {
	t.Helper()
	b := twice(t, blocks, page, 2, 2)
	b.open()
	for i := range places {
		b.append(0, i)
	}
	for range forks {
		b.fork(0)
	}
	b.is()
	return b
}

// 18.8: a fork has the same pairs and blocks, and costs none.
func TestFork(t *testing.T) {
	for page := 1; page < 5; page++ {
		for places := range 8 {
			b := lent(t, 9, page, places, 3)
			isFree(t, b.s, 9-(places+page-1)/page)
			for seq := range 4 {
				hasBlocks(t, b.s, seq, b.p.sequences[0].blocks...)
			}
			b.fork(2) // of a fork
			b.fork(9) // of none
			b.is()
			if b.open() != 5 {
				t.Error("Open")
			}
			b.is()
		}
	}
}

// 18.8: the one that goes on in a shared block has a copy of it, the free one with the least number; the last one has the old one alone.
func TestAppendInASharedBlock(t *testing.T) {
	for places := 1; places < 7; places++ {
		b := lent(t, 9, 3, places, 2)
		last := len(b.p.sequences[0].blocks) - 1
		b.append(1, 100)
		b.is()
		b.append(0, 101)
		b.is()
		b.append(2, 102) // is alone now
		b.is()
		if places%3 > 0 && b.p.sequences[2].blocks[last] != last {
			t.Error("the last one left its block:", b.p.sequences[2].blocks)
		}
		for i := range 4 {
			for seq := range 3 {
				b.append(seq, 10*i+seq)
				b.is()
			}
		}
	}
}

// 18.8: without a free block there is no going on in a shared one; alone, and in one's own, there is.
func TestAppendWithoutAFreeBlock(t *testing.T) {
	b := lent(t, 1, 4, 2, 1)
	hasRoom(t, b.s, 0, 0)
	for seq := range 2 {
		answers(t, "Append", b.append(seq, 9), api.ErrNoBlock)
		answers(t, "Append", b.s.Append(seq, nil), api.ErrPair)
		b.is()
	}
	b.release(0)
	hasRoom(t, b.s, 0, 2)
	answers(t, "Append", b.append(1, 7), api.OK)
	answers(t, "Append", b.append(1, 8), api.OK)
	answers(t, "Append", b.append(1, 9), api.ErrNoBlock)
	b.is()
}

// 18.8: what is left of a shared last block counts only if a copy can be had, which takes a free block.
func TestRoomOfShared(t *testing.T) {
	b := lent(t, 3, 4, 5, 1) // blocks 0 and 1, of which 1 has three places left
	hasRoom(t, b.s, 3, 3)    // in a copy in block 2
	b.append(0, 9)
	hasRoom(t, b.s, 2, 3) // each alone
	b.fork(0)
	hasRoom(t, b.s, 0, 3, 0)
	b.truncate(0, 4)
	hasRoom(t, b.s, 0, 3, 2) // full, and no block is free
	b.truncate(1, 4)
	hasRoom(t, b.s, 4, 4, 6)
	b.is()
	whole := lent(t, 3, 4, 4, 1) // a full block is as good as one's own
	hasRoom(t, whole.s, 8, 8)
	most := lent(t, 65, 64, 1, 1)
	hasRoom(t, most.s, 63+63*64, 63+63*64)
}

// 18.8: who cuts itself short within a shared block shares it still; what stood behind it is the others'.
func TestTruncateOfShared(t *testing.T) {
	for page := 1; page < 5; page++ {
		for n := range 8 {
			b := lent(t, 12, page, 7, 2)
			b.truncate(1, n)
			b.is()
			b.append(1, 50)
			b.is()
			b.truncate(0, 0)
			b.is()
			b.truncate(2, n)
			b.append(2, 60)
			b.append(0, 70)
			b.is()
			b.release(2)
			b.release(1)
			b.is()
		}
	}
}

// 18.8: who is left alone with a block writes over what the ones that left it had there.
func TestAloneAgain(t *testing.T) {
	b := lent(t, 1, 4, 4, 1)
	b.truncate(1, 2)
	answers(t, "Append", b.append(1, 50), api.ErrNoBlock)
	b.release(0)
	b.is()
	answers(t, "Append", b.append(1, 51), api.OK)
	b.is()
	answers(t, "Append", b.append(1, 52), api.OK)
	b.is()
}

// 18.8: a block is free when the last one that has it lets it go, in whichever order.
func TestReleaseOfShared(t *testing.T) {
	for _, order := range [][]int{{0, 1, 2}, {2, 1, 0}, {1, 2, 0}, {1, 0, 2}} {
		b := lent(t, 3, 2, 3, 2)
		for i, seq := range order {
			if b.s.Sharers(0) != 3-i || b.s.Sharers(1) != 3-i || b.s.Sharers(2) != 0 {
				t.Error("Sharers:", b.s.Sharers(0), b.s.Sharers(1), b.s.Sharers(2))
			}
			isFree(t, b.s, 1)
			b.release(seq)
			b.is()
		}
		isFree(t, b.s, 3)
	}
}

// 18.8: blocks in common at the beginnings, and in the same places.
func TestCommon(t *testing.T) {
	b := lent(t, 12, 2, 5, 2)
	common := func(x, y, want int) {
		t.Helper()
		for _, seqs := range [][2]int{{x, y}, {y, x}} {
			if n, e := b.s.Common(seqs[0], seqs[1]); n != want || e != api.OK {
				t.Error("Common", seqs, n, e, want)
			}
		}
	}
	common(0, 0, 3)
	common(0, 1, 3)
	b.append(1, 9)
	common(0, 1, 2)
	common(1, 2, 2)
	common(0, 2, 3)
	b.truncate(2, 1)
	common(0, 2, 1)
	common(2, 2, 1)
	b.truncate(2, 0)
	common(0, 2, 0)
	common(2, 2, 0)
	b.truncate(1, 0)
	for i := range 6 {
		b.append(1, i)
	}
	common(0, 1, 0)
	b.is()
}

// 18.8: blocks in common behind blocks that are not don't count, nor do the same ones in other places.
func TestCommonAtOtherPlaces(t *testing.T) {
	b := twice(t, 9, 1, 1, 1)
	b.open()
	for i := range 3 {
		b.append(0, i)
	}
	b.fork(0)
	b.truncate(0, 0)
	b.append(0, 7) // block 3
	b.append(0, 8)
	b.truncate(1, 0)
	b.append(1, 9) // block 0
	b.append(1, 9)
	if n, e := b.s.Common(0, 1); n != 0 || e != api.OK {
		t.Error("Common:", n, e)
	}
	b.is()
}
