package kv_test

import (
	"iter"
	"maps"
	"math"
	"slices"
	"testing"

	"herald/api"
	"herald/kv"
)

// tree is a tree without rows.
func tree(t *testing.T, most int) *kv.Tree {
	t.Helper()
	x, e := kv.NewTree(most)
	if x == nil || e != api.OK {
		t.Fatalf("NewTree(%d): %v, %d", most, x, e)
	}
	return x
}

// puts asks Put to keep a row.
func puts(t *testing.T, x *kv.Tree, seq int, tokens ...int) {
	t.Helper()
	if e := x.Put(tokens, seq); e != api.OK {
		t.Fatalf("Put(%v, %d): %d", tokens, seq, e)
	}
}

// best asks Best for a row.
func best(t *testing.T, x *kv.Tree, tokens []int, seq, n int) {
	t.Helper()
	if gotSeq, got, ok := x.Best(tokens); gotSeq != seq || got != n || !ok {
		t.Fatalf("Best(%v): %d, %d, %v and not %d, %d", tokens, gotSeq, got, ok, seq, n)
	}
}

// noBest asks Best to find nothing.
func noBest(t *testing.T, x *kv.Tree, tokens ...int) {
	t.Helper()
	if seq, n, ok := x.Best(tokens); seq != 0 || n != 0 || ok {
		t.Fatalf("Best(%v): %d, %d, %v", tokens, seq, n, ok)
	}
}

// drops asks Drop for a row.
func drops(t *testing.T, x *kv.Tree, seq int, had bool) {
	t.Helper()
	if got := x.Drop(seq); got != had {
		t.Fatalf("Drop(%d): %v", seq, got)
	}
}

// rowOf is a row with its sequence.
type rowOf struct {
	seq    int
	tokens []int
}

// met is what an iterator goes over, at most so much of it.
func met(all iter.Seq2[int, []int], most int) []rowOf {
	var l []rowOf
	for seq, tokens := range all {
		if len(l) == most {
			break
		}
		l = append(l, rowOf{seq, tokens})
	}
	return l
}

// sorted is rows by rising sequences.
func sorted(rows map[int][]int) []rowOf {
	var l []rowOf
	for _, seq := range slices.Sorted(maps.Keys(rows)) {
		l = append(l, rowOf{seq, rows[seq]})
	}
	return l
}

// goesOver asks an iterator for just these rows.
func goesOver(t *testing.T, what string, all iter.Seq2[int, []int], want ...rowOf) {
	t.Helper()
	same := func(a, b rowOf) bool { return a.seq == b.seq && slices.Equal(a.tokens, b.tokens) }
	if got := met(all, math.MaxInt); !slices.EqualFunc(got, want, same) {
		t.Fatalf("%s: %v and not %v", what, got, want)
	}
}

// isTree asks a tree for just these rows.
func isTree(t *testing.T, x *kv.Tree, rows map[int][]int) {
	t.Helper()
	if x.Len() != len(rows) {
		t.Fatalf("Len: %d and not %d", x.Len(), len(rows))
	}
	goesOver(t, "All", x.All(), sorted(rows)...)
}

// begins is how long a beginning two rows have in common.
func begins(a, b []int) int {
	for n := min(len(a), len(b)); ; n-- {
		if slices.Equal(a[:n], b[:n]) {
			return n
		}
	}
}

// isBest asks Best for what its words say of rows.
func isBest(t *testing.T, x *kv.Tree, rows map[int][]int, tokens []int) {
	t.Helper()
	longest := 0
	for _, row := range rows {
		longest = max(longest, begins(row, tokens))
	}
	if longest == 0 {
		noBest(t, x, tokens...)
		return
	}
	for _, r := range sorted(rows) {
		if begins(r.tokens, tokens) == longest {
			best(t, x, tokens, r.seq, longest)
			return
		}
	}
}

// 18.9
func TestNewTree(t *testing.T) {
	for _, most := range []int{math.MinInt, -65536, -1, 0, 65537, 1 << 32, 1<<32 + 1, math.MaxInt} {
		if x, e := kv.NewTree(most); x != nil || e != api.ErrStore {
			t.Errorf("NewTree(%d): %v, %d", most, x, e)
		}
	}
	for _, most := range []int{1, 2, 65535, 65536} {
		x := tree(t, most)
		isTree(t, x, nil)
		noBest(t, x)
		noBest(t, x, 0)
		drops(t, x, 0, false)
		isTree(t, x, nil)
	}
}

// 18.9: so many rows, and none more, till one is dropped; a row's sequence may have another one at any time.
func TestPut(t *testing.T) {
	for _, most := range []int{1, 2, 7} {
		x, rows := tree(t, most), map[int][]int{}
		for i := range most {
			seq := math.MaxInt - 3*i
			puts(t, x, seq, i, 1)
			rows[seq] = []int{i, 1}
		}
		isTree(t, x, rows)
		for _, seq := range []int{0, 1, math.MaxInt - 1} {
			answers(t, "Put of a full tree", x.Put([]int{9}, seq), api.ErrNoBlock)
		}
		isTree(t, x, rows)
		noBest(t, x, 9)
		puts(t, x, math.MaxInt, 9, 8)
		rows[math.MaxInt] = []int{9, 8}
		isTree(t, x, rows)
		best(t, x, []int{9}, math.MaxInt, 1)
		noBest(t, x, 0, 1)
		drops(t, x, math.MaxInt, true)
		delete(rows, math.MaxInt)
		isTree(t, x, rows)
		puts(t, x, 0, 5)
		rows[0] = []int{5}
		isTree(t, x, rows)
		answers(t, "Put of a full tree again", x.Put([]int{9}, math.MaxInt), api.ErrNoBlock)
	}
}

// 18.9, R2: a number below 0 is told ahead of a full tree.
func TestPutBelowNought(t *testing.T) {
	x := tree(t, 1)
	for range 2 {
		for _, seq := range []int{-1, -2, math.MinInt} {
			answers(t, "Put", x.Put([]int{1}, seq), api.ErrSequence)
			drops(t, x, seq, false)
		}
		noBest(t, x, 1)
		x.Put([]int{2}, 3)
		isTree(t, x, map[int][]int{3: {2}})
	}
}

// 18.9, R6: as many rows as may be.
func TestMostRows(t *testing.T) {
	x := tree(t, 65536)
	for seq := range 65536 {
		puts(t, x, seq, seq%7, seq)
	}
	answers(t, "Put", x.Put(nil, 65536), api.ErrNoBlock)
	if x.Len() != 65536 {
		t.Error("Len:", x.Len())
	}
	best(t, x, []int{65535 % 7, 65535}, 65535, 2)
	best(t, x, []int{6, 5}, 6, 1)
	for seq := range 65536 {
		drops(t, x, seq, true)
	}
	isTree(t, x, nil)
}

// 18.9: tokens are any numbers, also ones that no vocabulary has.
func TestAnyTokens(t *testing.T) {
	x := tree(t, 9)
	puts(t, x, 4, math.MinInt, -1, 0, math.MaxInt)
	best(t, x, []int{math.MinInt, -1, 0, math.MaxInt, 0}, 4, 4)
	best(t, x, []int{math.MinInt, -1, 0}, 4, 3)
	best(t, x, []int{math.MinInt, -1, 1}, 4, 2)
	noBest(t, x, math.MinInt+1)
}

// 18.9: a row of nothing is a row, which is never the best one.
func TestRowsOfNothing(t *testing.T) {
	x := tree(t, 2)
	puts(t, x, 0)
	isTree(t, x, map[int][]int{0: nil})
	noBest(t, x)
	noBest(t, x, 1)
	puts(t, x, 1, 1)
	best(t, x, []int{1}, 1, 1)
	noBest(t, x)
	answers(t, "Put of a full tree", x.Put(nil, 2), api.ErrNoBlock)
	drops(t, x, 0, true)
	puts(t, x, 0, 1)
	best(t, x, []int{1}, 0, 1)
	puts(t, x, 0)
	best(t, x, []int{1}, 1, 1)
}

// 18.9: the longest beginning, then the least sequence.
func TestBest(t *testing.T) {
	x := tree(t, 9)
	for _, seq := range []int{8, 3, 5} { // in no order
		puts(t, x, seq, 1, 2, 3)
	}
	puts(t, x, 4, 1, 2, 3, 4)
	puts(t, x, 0, 1, 2)
	puts(t, x, 9, 2, 1)
	best(t, x, []int{1}, 0, 1)
	best(t, x, []int{1, 2}, 0, 2)
	best(t, x, []int{1, 2, 3}, 3, 3)
	best(t, x, []int{1, 2, 3, 4}, 4, 4)
	best(t, x, []int{1, 2, 3, 4, 5}, 4, 4)
	best(t, x, []int{1, 2, 3, 5}, 3, 3)
	best(t, x, []int{1, 3}, 0, 1)
	best(t, x, []int{2, 2, 3}, 9, 1)
	noBest(t, x, 3, 1, 2, 3)
	drops(t, x, 3, true)
	best(t, x, []int{1, 2, 3, 5}, 4, 3)
	drops(t, x, 4, true)
	best(t, x, []int{1, 2, 3, 5}, 5, 3)
}

// 18.9
func TestDrop(t *testing.T) {
	x := tree(t, 9)
	puts(t, x, 2, 1)
	puts(t, x, 7, 2)
	for _, seq := range append(far, 0, 1, 3, 6, 8) {
		drops(t, x, seq, false)
	}
	isTree(t, x, map[int][]int{2: {1}, 7: {2}})
	drops(t, x, 2, true)
	drops(t, x, 2, false)
	isTree(t, x, map[int][]int{7: {2}})
	noBest(t, x, 1)
}

// 18.9: All tells what was when it was called; it is gone over again, left at any time, and within itself.
func TestAllOfATree(t *testing.T) {
	x := tree(t, 9)
	none := x.All()
	for _, seq := range []int{5, 0, 3} {
		puts(t, x, seq, seq, 1)
	}
	want := []rowOf{{0, []int{0, 1}}, {3, []int{3, 1}}, {5, []int{5, 1}}}
	all := x.All()
	for n := range 5 {
		if l := met(all, n); len(l) != min(n, 3) {
			t.Error("left:", n, l)
		}
	}
	rounds := 0
	for seq := range all {
		goesOver(t, "within", all, want...)
		drops(t, x, seq, true)
		puts(t, x, seq+1, 7)
		puts(t, x, seq+1, 8, 8)
		rounds++
	}
	if rounds != 3 {
		t.Error("rounds:", rounds)
	}
	goesOver(t, "behind changes", all, want...)
	goesOver(t, "of a new tree", none)
	isTree(t, x, map[int][]int{1: {8, 8}, 4: {8, 8}, 6: {8, 8}})
	calls := 0
	all(func(int, []int) bool {
		calls++
		return calls < 2
	})
	if calls != 2 {
		t.Error("who left is called again:", calls)
	}
}

// 18.9
func TestNilTree(t *testing.T) {
	var none *kv.Tree
	for _, x := range []*kv.Tree{none, new(kv.Tree)} { // R1: nor does a Tree that no call gave panic
		for _, tokens := range [][]int{nil, {1}} {
			for _, seq := range []int{0, 1, math.MaxInt} {
				answers(t, "Put", x.Put(tokens, seq), api.ErrNoBlock)
				drops(t, x, seq, false)
			}
			noBest(t, x, tokens...)
		}
		isTree(t, x, nil)
	}
	answers(t, "Put below 0", none.Put(nil, -1), api.ErrNoBlock)
}

// 18.9, 18.10: of rows that have much in common, Best's words, and no row has a longer beginning in common.
func TestBestOfManyRows(t *testing.T) {
	s := spread(7)
	for range 60 {
		most := 1 + s.below(12)
		x, rows := tree(t, most), map[int][]int{}
		for range 80 {
			tokens, seq := s.tokens(), s.below(16)
			if s.below(3) == 0 {
				_, had := rows[seq]
				drops(t, x, seq, had)
				delete(rows, seq)
			} else if _, has := rows[seq]; has || len(rows) < most {
				puts(t, x, seq, tokens...)
				rows[seq] = tokens
			} else {
				answers(t, "Put", x.Put(tokens, seq), api.ErrNoBlock)
			}
			isTree(t, x, rows)
			for range 3 {
				isBest(t, x, rows, s.tokens())
			}
			isBest(t, x, rows, tokens)
		}
	}
}

// tokens is a row of up to 5 tokens of which there are two.
func (s *spread) tokens() []int {
	l := make([]int, s.below(6))
	for i := range l {
		l[i] = s.below(2)
	}
	return l
}
