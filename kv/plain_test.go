package kv_test

import (
	"fmt"
	"math"
	"slices"
	"testing"

	"herald/api"
	"herald/kv"
)

// far is numbers that no sequence, layer, place, length or block of the tests is.
var far = []int{math.MinInt, math.MinInt + 1, -1 << 32, -2, -1, 1 << 31, 1 << 32, math.MaxInt - 1, math.MaxInt}

// made is a store without sequences.
func made(t *testing.T, blocks, page, layers, width int) *kv.Store {
	t.Helper()
	s, e := kv.New(blocks, page, layers, width)
	if s == nil || e != api.OK {
		t.Fatalf("New(%d, %d, %d, %d): %v, %d", blocks, page, layers, width, s, e)
	}
	return s
}

// one is a place's pair of one layer, of one number each.
func one(key, value int8) []api.Pair {
	return []api.Pair{{Key: []int8{key}, Value: []int8{value}}}
}

// pairs is a place's pairs, of numbers that a seed tells.
func pairs(layers, width, seed int) []api.Pair {
	l := make([]api.Pair, layers)
	for i := range l {
		for j := range width {
			l[i].Key = append(l[i].Key, int8(seed*31+i*7+j*3+1))
			l[i].Value = append(l[i].Value, int8(seed*17-i*5-j*11-2))
		}
	}
	return l
}

// copied is a copy of pairs.
func copied(l []api.Pair) []api.Pair {
	l = slices.Clone(l)
	for i, p := range l {
		l[i] = api.Pair{Key: slices.Clone(p.Key), Value: slices.Clone(p.Value)}
	}
	return l
}

// equal tells whether pairs are the same.
func equal(a, b []api.Pair) bool {
	return slices.EqualFunc(a, b, func(x, y api.Pair) bool {
		return slices.Equal(x.Key, y.Key) && slices.Equal(x.Value, y.Value)
	})
}

// opens asks for a sequence of a number.
func opens(t *testing.T, s *kv.Store, want int) {
	t.Helper()
	if seq := s.Open(); seq != want {
		t.Fatalf("Open: %d and not %d", seq, want)
	}
}

// forks asks for a fork of a number.
func forks(t *testing.T, s *kv.Store, seq, want int) {
	t.Helper()
	if got, e := s.Fork(seq); got != want || e != api.OK {
		t.Fatalf("Fork(%d): %d, %d and not %d", seq, got, e, want)
	}
}

// answers asks whether a call answered what it should.
func answers(t *testing.T, what string, e, want api.Errno) {
	t.Helper()
	if e != want {
		t.Fatalf("%s: %d and not %d", what, e, want)
	}
}

// hasBlocks asks for a sequence's blocks.
func hasBlocks(t *testing.T, s *kv.Store, seq int, want ...int) {
	t.Helper()
	if l, e := s.Blocks(seq); !slices.Equal(l, want) || e != api.OK {
		t.Fatalf("Blocks(%d): %v, %d and not %v", seq, l, e, want)
	}
}

// hasRoom asks for the rooms of the sequences from 0 on.
func hasRoom(t *testing.T, s *kv.Store, want ...int) {
	t.Helper()
	for seq, n := range want {
		if got := s.Room(seq); got != n {
			t.Fatalf("Room(%d): %d and not %d", seq, got, n)
		}
	}
}

// isFree asks how many blocks are free.
func isFree(t *testing.T, s *kv.Store, want int) {
	t.Helper()
	if n := s.Free(); n != want {
		t.Fatalf("Free: %d and not %d", n, want)
	}
}

// noSequence asks each call to find no sequence of a number; the other arguments are wrong, too.
func noSequence(t *testing.T, s *kv.Store, seq int) {
	t.Helper()
	answers(t, "Append", s.Append(seq, nil), api.ErrSequence)
	answers(t, "Append", s.Append(seq, pairs(s.Layers(), s.Width(), 1)), api.ErrSequence)
	answers(t, "Truncate", s.Truncate(seq, -1), api.ErrSequence)
	answers(t, "Truncate", s.Truncate(seq, 0), api.ErrSequence)
	answers(t, "Release", s.Release(seq), api.ErrSequence)
	if n, e := s.Length(seq); n != 0 || e != api.ErrSequence {
		t.Fatalf("Length(%d): %d, %d", seq, n, e)
	}
	if l, e := s.Blocks(seq); len(l) != 0 || e != api.ErrSequence {
		t.Fatalf("Blocks(%d): %v, %d", seq, l, e)
	}
	for _, n := range []int{-1, 0} {
		if p, e := s.Get(seq, n, n); len(p.Key)+len(p.Value) != 0 || e != api.ErrSequence {
			t.Fatalf("Get(%d): %v, %d", seq, p, e)
		}
		if l, e := s.Past(seq, n, n); len(l) != 0 || e != api.ErrSequence {
			t.Fatalf("Past(%d): %v, %d", seq, l, e)
		}
	}
	if n := s.Room(seq); n != 0 {
		t.Fatalf("Room(%d): %d", seq, n)
	}
	if n, e := s.Fork(seq); n != 0 || e != api.ErrSequence {
		t.Fatalf("Fork(%d): %d, %d", seq, n, e)
	}
	for _, other := range []int{seq, 0, 1, 2} {
		if n, e := s.Common(seq, other); n != 0 || e != api.ErrSequence {
			t.Fatalf("Common(%d, %d): %d, %d", seq, other, n, e)
		}
		if n, e := s.Common(other, seq); n != 0 || e != api.ErrSequence {
			t.Fatalf("Common(%d, %d): %d, %d", other, seq, n, e)
		}
	}
}

// plain is a store by the words of the promises: each sequence has pairs of its own, and numbers of blocks beside them.
type plain struct {
	blocks, page, layers, width, opened int
	sequences                           map[int]*row
}

// row is a sequence.
type row struct {
	places [][]api.Pair
	blocks []int
}

// plainly is New's words.
func plainly(blocks, page, layers, width int) *plain {
	return &plain{blocks, page, layers, width, 0, map[int]*row{}}
}

// copy is a store of the same sequences, which goes on for itself.
func (p *plain) copy() *plain {
	c := *p
	c.sequences = map[int]*row{}
	for seq, q := range p.sequences {
		c.sequences[seq] = &row{slices.Clone(q.places), slices.Clone(q.blocks)}
	}
	return &c
}

// sharers is Sharers's words.
func (p *plain) sharers(block int) int {
	n := 0
	for _, q := range p.sequences {
		if slices.Contains(q.blocks, block) {
			n++
		}
	}
	return n
}

// free is the numbers of the free blocks, rising.
func (p *plain) free() []int {
	var l []int
	for block := range p.blocks {
		if p.sharers(block) == 0 {
			l = append(l, block)
		}
	}
	return l
}

// open is Open's words.
func (p *plain) open() int {
	p.sequences[p.opened] = &row{}
	p.opened++
	return p.opened - 1
}

// fork is Fork's words.
func (p *plain) fork(seq int) (int, api.Errno) {
	q := p.sequences[seq]
	if q == nil {
		return 0, api.ErrSequence
	}
	fork := p.open()
	p.sequences[fork] = &row{slices.Clone(q.places), slices.Clone(q.blocks)}
	return fork, api.OK
}

// append is Append's words.
func (p *plain) append(seq int, l []api.Pair) api.Errno {
	q := p.sequences[seq]
	if q == nil {
		return api.ErrSequence
	}
	if len(l) != p.layers {
		return api.ErrPair
	}
	for _, x := range l {
		if len(x.Key) != p.width || len(x.Value) != p.width {
			return api.ErrPair
		}
	}
	isFull := len(q.places)%p.page == 0
	if isFull || p.sharers(q.blocks[len(q.blocks)-1]) > 1 {
		free := p.free()
		if len(free) == 0 {
			return api.ErrNoBlock
		}
		if !isFull {
			q.blocks = q.blocks[:len(q.blocks)-1]
		}
		q.blocks = append(q.blocks, free[0])
	}
	q.places = append(q.places, copied(l))
	return api.OK
}

// truncate is Truncate's words.
func (p *plain) truncate(seq, n int) api.Errno {
	q := p.sequences[seq]
	if q == nil {
		return api.ErrSequence
	}
	if n < 0 || n > len(q.places) {
		return api.ErrPlace
	}
	q.places = q.places[:n]
	for (len(q.blocks)-1)*p.page >= n && len(q.blocks) > 0 {
		q.blocks = q.blocks[:len(q.blocks)-1]
	}
	return api.OK
}

// release is Release's words.
func (p *plain) release(seq int) api.Errno {
	if p.sequences[seq] == nil {
		return api.ErrSequence
	}
	delete(p.sequences, seq)
	return api.OK
}

// room is how many appends go well, tried.
func (p *plain) room(seq int) int {
	c, n := p.copy(), 0
	for c.append(seq, pairs(c.layers, c.width, n)) == api.OK {
		n++
	}
	return n
}

// common is Common's words.
func (p *plain) common(a, b int) int {
	x, y, n := p.sequences[a].blocks, p.sequences[b].blocks, 0
	for n < min(len(x), len(y)) && x[n] == y[n] {
		n++
	}
	return n
}

// is asks a store for all that a plain one has, and for nothing else.
func is(t *testing.T, s *kv.Store, p *plain) {
	t.Helper()
	if s.Page() != p.page || s.Layers() != p.layers || s.Width() != p.width {
		t.Fatalf("Page, Layers, Width: %d, %d, %d", s.Page(), s.Layers(), s.Width())
	}
	isFree(t, s, len(p.free()))
	for block := range p.blocks {
		if n := s.Sharers(block); n != p.sharers(block) {
			t.Fatalf("Sharers(%d): %d and not %d", block, n, p.sharers(block))
		}
	}
	for _, block := range append(far, p.blocks) {
		if n := s.Sharers(block); n != 0 {
			t.Fatalf("Sharers(%d): %d", block, n)
		}
	}
	for seq := range p.opened + 1 {
		if q := p.sequences[seq]; q != nil {
			isRow(t, s, p, seq, q)
		} else {
			noSequence(t, s, seq)
		}
	}
	for _, seq := range far {
		noSequence(t, s, seq)
	}
}

// isRow asks a store for a sequence of a plain one.
func isRow(t *testing.T, s *kv.Store, p *plain, seq int, q *row) {
	t.Helper()
	if n, e := s.Length(seq); n != len(q.places) || e != api.OK {
		t.Fatalf("Length(%d): %d, %d and not %d", seq, n, e, len(q.places))
	}
	hasBlocks(t, s, seq, q.blocks...)
	if n := s.Room(seq); n != p.room(seq) {
		t.Fatalf("Room(%d): %d and not %d", seq, n, p.room(seq))
	}
	for layer := range p.layers {
		isLayer(t, s, seq, layer, q)
	}
	for _, layer := range append(far, p.layers) {
		noPlace(t, s, seq, layer, 0, 0)
	}
	for other := range p.sequences {
		if n, e := s.Common(seq, other); n != p.common(seq, other) || e != api.OK {
			t.Fatalf("Common(%d, %d): %d, %d and not %d", seq, other, n, e, p.common(seq, other))
		}
	}
}

// isLayer asks a store for the pairs of a layer of a sequence.
func isLayer(t *testing.T, s *kv.Store, seq, layer int, q *row) {
	t.Helper()
	var want []api.Pair
	for place, l := range q.places {
		want = append(want, l[layer])
		if x, e := s.Get(seq, layer, place); !equal([]api.Pair{x}, l[layer:layer+1]) || e != api.OK {
			t.Fatalf("Get(%d, %d, %d): %v, %d and not %v", seq, layer, place, x, e, l[layer])
		}
	}
	for n := range len(want) + 1 {
		if l, e := s.Past(seq, layer, n); !equal(l, want[:n]) || e != api.OK {
			t.Fatalf("Past(%d, %d, %d): %v, %d and not %v", seq, layer, n, l, e, want[:n])
		}
	}
	noPlace(t, s, seq, layer, len(want), len(want)+1)
	for _, n := range far {
		noPlace(t, s, seq, layer, n, n)
	}
}

// noPlace asks a store to have no such place, and no such length.
func noPlace(t *testing.T, s *kv.Store, seq, layer, place, n int) {
	t.Helper()
	if x, e := s.Get(seq, layer, place); len(x.Key)+len(x.Value) != 0 || e != api.ErrPlace {
		t.Fatalf("Get(%d, %d, %d): %v, %d", seq, layer, place, x, e)
	}
	if l, e := s.Past(seq, layer, n); len(l) != 0 || e != api.ErrPlace {
		t.Fatalf("Past(%d, %d, %d): %v, %d", seq, layer, n, l, e)
	}
}

// both is a store and the plain one of the same sizes, asked for the same.
type both struct {
	t *testing.T
	s *kv.Store
	p *plain
}

// twice is both, without sequences.
func twice(t *testing.T, blocks, page, layers, width int) both {
	t.Helper()
	return both{t, made(t, blocks, page, layers, width), plainly(blocks, page, layers, width)}
}

// open, fork, append, truncate and release ask both for the same, and hold their answers against each other.
func (b both) open() int {
	b.t.Helper()
	seq := b.p.open()
	opens(b.t, b.s, seq)
	return seq
}

func (b both) fork(seq int) {
	b.t.Helper()
	want, err := b.p.fork(seq)
	if got, e := b.s.Fork(seq); got != want || e != err {
		b.t.Fatalf("Fork(%d): %d, %d and not %d, %d", seq, got, e, want, err)
	}
}

func (b both) append(seq, seed int) api.Errno {
	b.t.Helper()
	l := pairs(b.p.layers, b.p.width, seed)
	want := b.p.append(seq, l)
	answers(b.t, fmt.Sprintf("Append(%d)", seq), b.s.Append(seq, l), want)
	return want
}

func (b both) truncate(seq, n int) {
	b.t.Helper()
	answers(b.t, fmt.Sprintf("Truncate(%d, %d)", seq, n), b.s.Truncate(seq, n), b.p.truncate(seq, n))
}

func (b both) release(seq int) {
	b.t.Helper()
	answers(b.t, fmt.Sprintf("Release(%d)", seq), b.s.Release(seq), b.p.release(seq))
}

// is asks the store for all that the plain one has.
func (b both) is() {
	b.t.Helper()
	is(b.t, b.s, b.p)
}

// step does something that a spread tells.
func (b both) step(s *spread, seed int) {
	b.t.Helper()
	seq := s.below(b.p.opened+2) - 1
	switch s.below(16) {
	case 0, 1:
		if len(b.p.sequences) < 6 {
			b.open()
		}
	case 2, 3:
		if len(b.p.sequences) < 6 {
			b.fork(seq)
		}
	case 4:
		b.release(seq)
	case 5, 6:
		b.truncate(seq, s.below(b.p.page*b.p.blocks+3)-1)
	case 7:
		if q := b.p.sequences[seq]; q != nil { // of a few places
			b.truncate(seq, len(q.places)-s.below(3))
		}
	default:
		b.append(seq, seed)
	}
}

// spread is numbers from 0 to less than a bound, in no order that the eye could tell, always the same ones.
type spread uint64

func (s *spread) below(bound int) int {
	*s = *s*6364136223846793005 + 1442695040888963407
	return int(*s>>33) % bound
}
