package queue_test

import (
	"math"
	"slices"
	"testing"

	"herald/queue"
)

// due asks Until for just these keys and values, and for what is left.
func due(t *testing.T, q *queue.Queue[int, string], k int, keys []int, values []string, left ...of) {
	t.Helper()
	gotKeys, gotValues := q.Until(k)
	if !slices.Equal(gotKeys, keys) || !slices.Equal(gotValues, values) {
		t.Errorf("Until(%d): %v, %v", k, gotKeys, gotValues)
	}
	is(t, q, left...)
}

// 6.6: below all keys, at a key, between two, above all.
func TestUntil(t *testing.T) {
	all := []of{{3, "b", 1}, {5, "a", 0}, {5, "c", 2}, {7, "d", 3}}
	for _, c := range []struct{ k, n int }{
		{math.MinInt, 0}, {-3, 0}, {2, 0}, {3, 1}, {4, 1}, {5, 3}, {6, 3}, {7, 4}, {8, 4}, {math.MaxInt, 4},
	} {
		q := filled(t, 5, 3, 5, 7)
		due(t, q, c.k, []int{3, 5, 5, 7}[:c.n], []string{"b", "a", "c", "d"}[:c.n], all[c.n:]...)
		for _, e := range all[:c.n] {
			hasNot(t, q, e.ticket, 0)
		}
		due(t, q, c.k, nil, nil, all[c.n:]...)
		puts(t, q, c.k, "e", 4)
		due(t, q, c.k, []int{c.k}, []string{"e"}, all[c.n:]...)
	}
	q := made[int, string](t, 1)
	due(t, q, math.MaxInt, nil, nil)
}

// 6.6: what was changed is due by its new key, behind those that had it.
func TestUntilBehindChange(t *testing.T) {
	q := filled(t, 1, 2, 3)
	q.Change(0, 3)
	q.Change(2, 0)
	due(t, q, 2, []int{0, 2}, []string{"c", "b"}, of{3, "a", 0})
}

// 6.8: Until takes just what Pop would, as long as First is not above.
func TestUntilIsPop(t *testing.T) {
	s := spread(3)
	for _, most := range sizes {
		for _, keys := range []int{1, 2, 10, most} {
			q := numbered(t, most, func(int) int { return s.below(keys) })
			p := q.Copy()
			for k := -1; k <= keys; k += 1 + s.below(keys) {
				gotKeys, gotValues := q.Until(k)
				var wantKeys, wantValues []int
				for {
					if key, _, _, ok := p.First(); !ok || key > k {
						break
					}
					key, v, _, _ := p.Pop()
					wantKeys, wantValues = append(wantKeys, key), append(wantValues, v)
				}
				if !slices.Equal(gotKeys, wantKeys) || !slices.Equal(gotValues, wantValues) {
					t.Fatalf("of %d: Until(%d): %v, %v and not %v, %v", most, k, gotKeys, gotValues, wantKeys, wantValues)
				}
				if q.Len() != p.Len() || !slices.Equal(met(q.All(), most), met(p.All(), most)) {
					t.Fatalf("of %d: Until(%d) leaves %d, Pop %d", most, k, q.Len(), p.Len())
				}
			}
		}
	}
}

// R4: what Until hands out is its own, spare room too.
func TestUntilHandsOutItsOwn(t *testing.T) {
	q := made[int, int](t, 99)
	for i := range 9 {
		puts(t, q, i, i, i)
	}
	keys, values := q.Until(4)
	moreKeys, moreValues := q.Until(6)
	for _, l := range [][]int{keys, values, moreKeys, moreValues} {
		l = l[:cap(l)]
		for i := range l {
			l[i] = -100 - i
		}
	}
	is(t, q, kept[int, int]{7, 7, 7}, kept[int, int]{8, 8, 8})
	puts(t, q, 0, 1, 9)
	is(t, q, kept[int, int]{0, 1, 9}, kept[int, int]{7, 7, 7}, kept[int, int]{8, 8, 8})
	keys, values = q.Until(7)
	for i := range keys[:cap(keys)] {
		keys[:cap(keys)][i] = 50
	}
	if !slices.Equal(values, []int{1, 7}) {
		t.Error("keys and values share memory:", values)
	}
}
