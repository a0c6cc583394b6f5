package kv_test

import (
	"math"
	"testing"

	"herald/api"
	"herald/kv"
)

// 18.1
func TestNewRefuses(t *testing.T) {
	most := [4]int{65536, 64, 8, 64}
	for i, n := range most {
		for _, wrong := range []int{math.MinInt, -1 << 32, -1, 0, n + 1, 2 * n, 1 << 32, 1<<32 + 1, math.MaxInt} {
			for _, sizes := range [][4]int{{1, 1, 1, 1}, most} {
				sizes[i] = wrong
				if s, e := kv.New(sizes[0], sizes[1], sizes[2], sizes[3]); s != nil || e != api.ErrStore {
					t.Errorf("New(%v): %v, %d", sizes, s, e)
				}
			}
		}
	}
}

// 18.1, 18.5: all sizes that may be, each as small and as great as it may be.
func TestNewOfEdges(t *testing.T) {
	for _, blocks := range []int{1, 65536} {
		for _, page := range []int{1, 64} {
			for _, layers := range []int{1, 8} {
				for _, width := range []int{1, 64} {
					s := made(t, blocks, page, layers, width)
					if s.Page() != page || s.Layers() != layers || s.Width() != width || s.Free() != blocks {
						t.Error(blocks, page, layers, width, s.Page(), s.Layers(), s.Width(), s.Free())
					}
					noSequence(t, s, 0)
					opens(t, s, 0)
					hasRoom(t, s, blocks*page)
					l := pairs(layers, width, blocks)
					answers(t, "Append", s.Append(0, l), api.OK)
					hasRoom(t, s, blocks*page-1)
					isFree(t, s, blocks-1)
					for layer := range layers {
						if p, e := s.Get(0, layer, 0); !equal([]api.Pair{p}, l[layer:layer+1]) || e != api.OK {
							t.Error("Get", layer, p, e)
						}
					}
				}
			}
		}
	}
}

// 18.1: a store without sequences; numbers go on, and none comes twice, whatever is released.
func TestOpen(t *testing.T) {
	b := twice(t, 3, 2, 1, 1)
	b.is()
	for i := range 50 {
		if seq := b.open(); seq != i {
			t.Fatal("Open:", seq, i)
		}
		if i%2 == 0 {
			b.release(i / 2)
		}
		b.fork(i + 1) // there is none
	}
	b.is()
	if seq := b.open(); seq != 50 {
		t.Error("a fork that was refused has taken a number:", seq)
	}
}

// 18.1, 18.5: all blocks may be in use, also the last ones; the store of most blocks has room for just so many.
func TestMostBlocks(t *testing.T) {
	s := made(t, 65536, 1, 1, 1)
	opens(t, s, 0)
	for i := range 65536 {
		answers(t, "Append", s.Append(0, one(int8(i), int8(i>>8))), api.OK)
	}
	isFree(t, s, 0)
	hasRoom(t, s, 0)
	answers(t, "Append", s.Append(0, one(1, 1)), api.ErrNoBlock)
	has(t, s, 0, 65535, -1, -1)
	l, e := s.Blocks(0)
	if len(l) != 65536 || l[65535] != 65535 || e != api.OK || s.Sharers(65535) != 1 || s.Sharers(65536) != 0 {
		t.Error("Blocks:", len(l), e)
	}
	forks(t, s, 0, 1)
	if n, e := s.Common(0, 1); n != 65536 || e != api.OK {
		t.Error("Common:", n, e)
	}
	answers(t, "Release", s.Release(0), api.OK)
	isFree(t, s, 0)
	answers(t, "Truncate", s.Truncate(1, 1), api.OK)
	isFree(t, s, 65535)
}

// 18.2, 18.4, 18.6: numbers that no sequence had yet, or none has any more.
func TestNoSequence(t *testing.T) {
	b := twice(t, 4, 2, 2, 3)
	b.open()
	b.open()
	b.append(1, 1)
	b.release(0)
	for _, seq := range append(far, 0, 2, 3) {
		noSequence(t, b.s, seq)
	}
	b.is()
	b.release(1)
	b.is()
	b.release(1)
	if b.open() != 2 {
		t.Error("Open")
	}
	b.is()
}

// 18.3: pairs that don't fit, which are told ahead of a store that is full, and change nothing.
func TestAppendOfWrongPairs(t *testing.T) {
	b := twice(t, 1, 2, 2, 3)
	b.open()
	for range 3 {
		for _, l := range [][]api.Pair{
			nil, {}, pairs(1, 3, 1), pairs(3, 3, 1), pairs(16, 3, 1), pairs(2, 2, 1), pairs(2, 4, 1), pairs(2, 0, 1), {{}, {}},
		} {
			answers(t, "Append", b.s.Append(0, l), api.ErrPair)
		}
		for i := range 4 { // one of four rows too short, or too long
			for _, n := range []int{0, 2, 4, 6} {
				l := pairs(2, 3, 1)
				r := &l[i/2].Key
				if i%2 == 1 {
					r = &l[i/2].Value
				}
				*r = make([]int8, n)
				answers(t, "Append", b.s.Append(0, l), api.ErrPair)
			}
		}
		b.is()
		b.append(0, 5)
	}
	if b.append(0, 5) != api.ErrNoBlock {
		t.Error("there is room")
	}
}

// 18.3: a block is taken with the first place of it, the free one with the least number.
func TestBlocksAreTaken(t *testing.T) {
	for _, page := range []int{1, 2, 3, 64} {
		b := twice(t, 5, page, 1, 2)
		b.open()
		b.open()
		for i := range page + 1 { // blocks 0 and 2, blocks 1 and 3
			b.append(0, i)
			b.append(1, 100+i)
			if l, _ := b.s.Blocks(0); len(l) != i/page+1 {
				t.Fatalf("page %d: %v for %d places", page, l, i+1)
			}
		}
		b.is()
		b.release(0)
		b.open()
		for i := range 3*page + 1 { // 0, 2 and 4, and then there is none
			if e := b.append(2, i); i == 3*page && e != api.ErrNoBlock {
				t.Fatal("Append:", e)
			}
		}
		hasBlocks(t, b.s, 2, 0, 2, 4)
		b.is()
		b.truncate(1, 1)
		b.append(2, 9)
		hasBlocks(t, b.s, 2, 0, 2, 4, 3)
		b.is()
	}
}

// 18.3: a place that was refused is not there; the next one is, when there is room again.
func TestAppendOfAFullStore(t *testing.T) {
	b := twice(t, 2, 3, 1, 1)
	b.open()
	b.open()
	b.append(1, 9)
	for i := range 6 {
		if e := b.append(0, i); (e == api.ErrNoBlock) != (i > 2) {
			t.Error("Append:", i, e)
		}
		b.is()
	}
	b.append(1, 8) // that has room left
	b.is()
	b.release(1)
	for i := range 4 {
		b.append(0, 10+i)
		b.is()
	}
}

// 18.4: numbers of 8 bits, all of them, in each row of each layer.
func TestGetAndPast(t *testing.T) {
	s, want := made(t, 40, 7, 3, 5), &row{}
	opens(t, s, 0)
	for i := range 256 {
		l := pairs(3, 5, i)
		for j := range l {
			l[j].Key[0], l[j].Value[4] = int8(i), int8(-i)
		}
		want.places = append(want.places, l)
		answers(t, "Append", s.Append(0, l), api.OK)
	}
	for layer := range 3 {
		isLayer(t, s, 0, layer, want)
	}
}

// 18.4, R2: of a sequence without places.
func TestOfNoPlaces(t *testing.T) {
	b := twice(t, 2, 2, 2, 1)
	b.open()
	b.is()
	hasBlocks(t, b.s, 0)
	hasRoom(t, b.s, 4)
	for layer := range 2 {
		if l, e := b.s.Past(0, layer, 0); len(l) != 0 || e != api.OK {
			t.Error("Past:", l, e)
		}
	}
	for _, n := range append(far, 1) {
		answers(t, "Truncate", b.s.Truncate(0, n), api.ErrPlace)
	}
	b.truncate(0, 0)
	b.fork(0)
	b.is()
	if n, e := b.s.Common(0, 1); n != 0 || e != api.OK {
		t.Error("Common:", n, e)
	}
	b.release(0)
	b.is()
}

// 18.4
func TestRoom(t *testing.T) {
	b := twice(t, 3, 4, 1, 1)
	b.open()
	b.open()
	hasRoom(t, b.s, 12, 12)
	b.append(0, 1)
	hasRoom(t, b.s, 11, 8)
	b.append(1, 1)
	hasRoom(t, b.s, 7, 7)
	for i := range 3 {
		b.append(0, i)
		hasRoom(t, b.s, 6-i, 7)
	}
	b.append(0, 9)
	hasRoom(t, b.s, 3, 3)
	b.truncate(0, 4)
	hasRoom(t, b.s, 4, 7)
	b.truncate(0, 3)
	hasRoom(t, b.s, 5, 7)
	b.truncate(0, 0)
	hasRoom(t, b.s, 8, 11)
	b.release(1)
	hasRoom(t, b.s, 12, 0)
}

// 18.5: each length from each length, and behind it what is appended anew.
func TestTruncate(t *testing.T) {
	for page := range 5 {
		for from := range 10 {
			for n := range from + 1 {
				b := twice(t, 10, page+1, 2, 2)
				b.open()
				b.open()
				b.append(1, 50)
				for i := range from {
					b.append(0, i)
				}
				for _, wrong := range append(far, from+1) {
					answers(t, "Truncate", b.s.Truncate(0, wrong), api.ErrPlace)
				}
				b.is()
				b.truncate(0, n)
				b.is()
				b.append(1, 51)
				b.append(0, 60)
				b.is()
			}
		}
	}
}

// 18.5: what is released is free, and another one's then, with other pairs.
func TestRelease(t *testing.T) {
	b := twice(t, 4, 2, 1, 3)
	for i := range 3 {
		b.open()
		for j := range 2 - i%2 {
			b.append(i, 10*i+j)
		}
	}
	b.is()
	b.release(1)
	b.is()
	b.append(0, 99)
	b.append(2, 98)
	b.append(0, 97)
	hasBlocks(t, b.s, 0, 0, 1)
	hasBlocks(t, b.s, 2, 2, 3)
	b.is()
	b.release(0)
	b.release(2)
	isFree(t, b.s, 4)
	b.is()
}

// 18.6
func TestNilStore(t *testing.T) {
	for _, s := range []*kv.Store{nil, new(kv.Store)} { // R1: nor does a Store that no call gave panic
		for range 2 {
			if n := s.Open(); n != 0 {
				t.Error("Open:", n)
			}
			if s.Free() != 0 || s.Layers() != 0 || s.Width() != 0 || s.Page() != 0 {
				t.Error("sizes:", s.Free(), s.Layers(), s.Width(), s.Page())
			}
			for _, n := range append(far, 0, 1, 2) {
				noSequence(t, s, n)
				if sharers := s.Sharers(n); sharers != 0 {
					t.Error("Sharers:", sharers)
				}
			}
		}
	}
}
