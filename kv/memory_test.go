package kv_test

import (
	"math"
	"slices"
	"testing"

	"herald/api"
)

// spare is a list with room behind its end, which is filled too.
func spare[T any](l []T, fill T) []T {
	room := append(make([]T, 0, len(l)+3), l...)
	for i := len(l); i < cap(room); i++ {
		room[:cap(room)][i] = fill
	}
	return room
}

// entire is a list with what lies behind its end.
func entire[T any](l []T) []T { return l[:cap(l)] }

// fill writes over a list, and over what lies behind its end.
func fill[T any](l []T, with T) {
	for i := range entire(l) {
		entire(l)[i] = with
	}
}

// spoil writes over pairs and what lies behind them.
func spoil(l []api.Pair) {
	for _, p := range l {
		fill(p.Key, 111)
		fill(p.Value, 112)
	}
	fill(l, api.Pair{})
}

// R4: what is appended is not changed and not kept, nor what lies behind it.
func TestAppendKeepsNothing(t *testing.T) {
	b := twice(t, 3, 2, 2, 3)
	b.open()
	b.fork(0)
	for i := range 4 {
		l := pairs(2, 3, i)
		for j, p := range l {
			l[j] = api.Pair{Key: spare(p.Key, 66), Value: spare(p.Value, 67)}
		}
		l = spare(l, api.Pair{Key: []int8{5}})
		was := copied(l)
		b.p.append(0, was)
		answers(t, "Append", b.s.Append(0, l), api.OK)
		b.s.Append(0, l[:1])
		if !equal(l, was) || !equal(entire(l)[2:], slices.Repeat([]api.Pair{{Key: []int8{5}}}, cap(l)-2)) {
			t.Error("what was handed in was changed:", entire(l))
		}
		for _, p := range l {
			if k, v := entire(p.Key)[3:], entire(p.Value)[3:]; k[0] != 66 || v[0] != 67 || slices.Max(k) != 66 || slices.Max(v) != 67 {
				t.Error("what lies behind was changed:", k, v)
			}
		}
		spoil(l)
		b.is()
	}
}

// R4: the same memory twice in what is handed in is two rows of the store.
func TestAppendOfOneRowTwice(t *testing.T) {
	b := twice(t, 3, 2, 2, 2)
	b.open()
	r := []int8{3, 4}
	l := []api.Pair{{Key: r, Value: r}, {Key: r, Value: r}}
	b.p.append(0, l)
	answers(t, "Append", b.s.Append(0, l), api.OK)
	r[0] = 9
	b.is()
	b.p.append(0, l)
	answers(t, "Append", b.s.Append(0, l), api.OK)
	b.is()
}

// R4: what is told is the caller's own: no two lists of it share any, nor with what is kept, nor with another answer.
func TestAnswersAreTheCallersOwn(t *testing.T) {
	b := lent(t, 5, 2, 5, 1)
	first, _ := b.s.Past(0, 1, 5)
	second, _ := b.s.Past(1, 1, 5)
	p, _ := b.s.Get(0, 1, 2)
	kept := copied(second)
	spoil(first)
	spoil([]api.Pair{p})
	l, _ := b.s.Blocks(0)
	m, _ := b.s.Blocks(0)
	fill(l, 77)
	if !equal(second, kept) || !slices.Equal(m, []int{0, 1, 2}) {
		t.Error("another answer was changed:", second, m)
	}
	b.is()
	for i := range second {
		for j, r := range [][]int8{second[i].Key, second[i].Value} {
			l, _ := b.s.Past(0, 1, 5)
			own := [][]int8{l[i].Key, l[i].Value}[j]
			fill(own, 99)
			changed := 0
			for n, p := range l {
				if !slices.Equal(p.Key, kept[n].Key) {
					changed++
				}
				if !slices.Equal(p.Value, kept[n].Value) {
					changed++
				}
			}
			if changed != 1 || slices.Equal(own, r) {
				t.Error("two lists of one answer share:", i, j, changed)
			}
		}
	}
}

// R4: what was told stays as it was, whatever is done to the store then.
func TestAnswersStay(t *testing.T) {
	b := lent(t, 6, 2, 5, 0)
	l, _ := b.s.Past(0, 1, 5)
	p, _ := b.s.Get(0, 0, 4)
	blocks, _ := b.s.Blocks(0)
	was, pair := copied(l), copied([]api.Pair{p})
	b.truncate(0, 0)
	b.open()
	for i := range 4 {
		b.append(1, 50+i)
		b.append(0, 60+i)
	}
	if !equal(l, was) || !equal([]api.Pair{p}, pair) || !slices.Equal(blocks, []int{0, 1, 2}) {
		t.Error(l, p, blocks)
	}
}

// R4: rows of a tree are not kept as they are handed in, nor changed; what it hands out is the caller's, each time anew.
func TestRowsOfATreeAreItsOwn(t *testing.T) {
	x := tree(t, 5)
	l := spare([]int{1, 2, 3}, 55)
	puts(t, x, 4, l...)
	puts(t, x, 6, l[:2]...)
	best(t, x, l, 4, 3)
	if !slices.Equal(l, []int{1, 2, 3}) || entire(l)[3] != 55 {
		t.Error("what was handed in was changed:", entire(l))
	}
	fill(l, 9)
	want := map[int][]int{4: {1, 2, 3}, 6: {1, 2}}
	isTree(t, x, want)
	all := x.All()
	for range 2 {
		for _, tokens := range all {
			fill(tokens, 8)
		}
		goesOver(t, "again", all, sorted(want)...)
		isTree(t, x, want)
	}
}

// R3: no tokens and no pairs, be they nil or empty.
func TestEmptyLists(t *testing.T) {
	b := twice(t, 2, 2, 1, 1)
	b.open()
	x := tree(t, 5)
	puts(t, x, 3, 1)
	for seq, none := range [][]int{nil, {}} {
		answers(t, "Put", x.Put(none, seq), api.OK)
		noBest(t, x, none...)
	}
	isTree(t, x, map[int][]int{0: nil, 1: nil, 3: {1}})
	for _, none := range [][]int8{nil, {}} {
		answers(t, "Append", b.s.Append(0, []api.Pair{{Key: none, Value: none}}), api.ErrPair)
		answers(t, "Append", b.s.Append(0, []api.Pair{{Key: none, Value: []int8{1}}}), api.ErrPair)
		answers(t, "Append", b.s.Append(0, []api.Pair{{Key: []int8{1}, Value: none}}), api.ErrPair)
	}
	b.is()
}

// R1: any numbers, for each call.
func TestNothingPanics(t *testing.T) {
	s := spread(8)
	edges := append(far, 0, 1, 2, 3, 64, 65, 65536, 65537, math.MaxInt32, math.MinInt32)
	any := func() int { return edges[s.below(len(edges))] }
	b := lent(t, 5, 2, 5, 2)
	x := tree(t, 3)
	for range 20000 {
		seq, n, m := any(), any(), any()
		b.s.Get(seq, n, m)
		b.s.Past(seq, n, m)
		b.s.Common(seq, n)
		b.s.Sharers(n)
		b.s.Room(seq)
		b.s.Length(seq)
		b.s.Blocks(seq)
		if s.below(9) == 0 {
			b.truncate(seq, n)
		}
		if s.below(99) == 0 {
			b.release(seq)
			b.fork(b.p.opened - 1)
		}
		b.append(seq, m)
		x.Put([]int{n, m}, seq)
		x.Best([]int{n, any()})
		if s.below(3) == 0 {
			x.Drop(any())
		}
	}
	b.is()
}
