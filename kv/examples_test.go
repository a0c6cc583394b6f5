package kv_test

import (
	"testing"

	"herald/api"
	"herald/kv"
)

// has asks for the pair of layer 0 at a place, of one number each.
func has(t *testing.T, s *kv.Store, seq, place int, key, value int8) {
	t.Helper()
	if p, e := s.Get(seq, 0, place); !equal([]api.Pair{p}, one(key, value)) || e != api.OK {
		t.Fatalf("Get(%d, 0, %d): %v, %d and not %d, %d", seq, place, p, e, key, value)
	}
}

// The chapter's first example, and the second one's store.
func TestExampleOfAStore(t *testing.T) {
	s := made(t, 2, 2, 1, 1)
	opens(t, s, 0)
	opens(t, s, 1)
	answers(t, "Append", s.Append(0, one(1, 2)), api.OK)
	answers(t, "Append", s.Append(1, one(3, 4)), api.OK)
	hasBlocks(t, s, 0, 0)
	hasBlocks(t, s, 1, 1)
	answers(t, "Append", s.Append(0, one(5, 6)), api.OK)
	answers(t, "Append", s.Append(0, one(7, 8)), api.ErrNoBlock)
	hasRoom(t, s, 0, 1)
	has(t, s, 0, 1, 5, 6)
	answers(t, "Release", s.Release(1), api.OK)
	answers(t, "Append", s.Append(0, one(7, 8)), api.OK)
	hasBlocks(t, s, 0, 0, 1)
	answers(t, "Truncate", s.Truncate(0, 2), api.OK)
	isFree(t, s, 1)
	l, e := s.Past(0, 0, 2)
	if !equal(l, append(one(1, 2), one(5, 6)...)) || e != api.OK {
		t.Error("Past:", l, e)
	}
	if p, e := s.Get(0, 1, 0); len(p.Key)+len(p.Value) != 0 || e != api.ErrPlace {
		t.Error("Get:", p, e)
	}
	answers(t, "Append of nothing", s.Append(0, nil), api.ErrPair)
	opens(t, s, 2)
}

// The second one's New.
func TestExampleOfNoStore(t *testing.T) {
	if s, e := kv.New(0, 1, 1, 1); s != nil || e != api.ErrStore {
		t.Error("New:", s, e)
	}
}

// The third one.
func TestExampleOfAFork(t *testing.T) {
	s := made(t, 3, 2, 1, 1)
	opens(t, s, 0)
	for i := range int8(3) {
		answers(t, "Append", s.Append(0, one(i, i)), api.OK)
	}
	hasBlocks(t, s, 0, 0, 1)
	forks(t, s, 0, 1)
	hasBlocks(t, s, 1, 0, 1)
	isFree(t, s, 1)
	if n := s.Sharers(1); n != 2 {
		t.Error("Sharers:", n)
	}
	answers(t, "Append", s.Append(1, one(9, 9)), api.OK)
	hasBlocks(t, s, 1, 0, 2)
	hasBlocks(t, s, 0, 0, 1)
	if n, e := s.Common(0, 1); n != 1 || e != api.OK {
		t.Error("Common:", n, e)
	}
	answers(t, "Append", s.Append(0, one(8, 8)), api.OK)
	isFree(t, s, 0)
	has(t, s, 0, 3, 8, 8)
	has(t, s, 1, 2, 2, 2)
	has(t, s, 1, 3, 9, 9)
	answers(t, "Release", s.Release(0), api.OK)
	isFree(t, s, 1)
}

// The fourth one.
func TestExampleOfATree(t *testing.T) {
	x := tree(t, 9)
	puts(t, x, 0, 1, 2, 3)
	puts(t, x, 1, 1, 2)
	puts(t, x, 2, 4)
	best(t, x, []int{1, 2, 9}, 0, 2)
	best(t, x, []int{4, 4}, 2, 1)
	noBest(t, x, 7)
	drops(t, x, 0, true)
	best(t, x, []int{1, 2, 9}, 1, 2)
}

// The numbers of the errors and of the limits.
func TestNumbers(t *testing.T) {
	for i, e := range []api.Errno{api.ErrStore, api.ErrSequence, api.ErrPair, api.ErrPlace, api.ErrNoBlock} {
		if int(e) != 180+i {
			t.Error("an error's number:", e)
		}
	}
	if api.MaxBlocks != 65536 || api.MaxPage != 64 {
		t.Error("a limit")
	}
}
