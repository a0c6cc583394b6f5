package queue_test

import (
	"cmp"
	"math"
	"testing"

	"herald/api"
	"herald/queue"
)

// 6.2: least keys first, equal ones as they came.
func TestOrder(t *testing.T) {
	q := filled(t, 2, 1, 2, math.MinInt, 1, math.MaxInt, 0, -1, 2)
	want := []of{{math.MinInt, "d", 3}, {-1, "h", 7}, {0, "g", 6}, {1, "b", 1}, {1, "e", 4}, {2, "a", 0}, {2, "c", 2}, {2, "i", 8}, {math.MaxInt, "f", 5}}
	is(t, q, want...)
	comesOut(t, q, want...)
}

// 6.2: PopLast tells the same elements from the other end.
func TestPopLast(t *testing.T) {
	q := filled(t, 2, 1, 2, 1, 3)
	tells(t, "PopLast", q.PopLast, of{3, "e", 4})
	hasNot(t, q, 4, 1)
	is(t, q, of{1, "b", 1}, of{1, "d", 3}, of{2, "a", 0}, of{2, "c", 2})
	tells(t, "PopLast", q.PopLast, of{2, "c", 2})
	tells(t, "Pop", q.Pop, of{1, "b", 1})
	tells(t, "PopLast", q.PopLast, of{2, "a", 0})
	is(t, q, of{1, "d", 3})
	tells(t, "PopLast", q.PopLast, of{1, "d", 3})
	is(t, q)
	tellsNone(t, "PopLast", q.PopLast)
	tellsNone(t, "Pop", q.Pop)
	is(t, q)
}

// 6.2: First and Last take nothing out.
func TestFirstAndLast(t *testing.T) {
	q := filled(t, 2, 1)
	for range 3 {
		tells(t, "First", q.First, of{1, "b", 1})
		tells(t, "Last", q.Last, of{2, "a", 0})
	}
	tells(t, "Pop", q.Pop, of{1, "b", 1})
	tells(t, "First", q.First, of{2, "a", 0})
	tells(t, "Last", q.Last, of{2, "a", 0})
}

// 6.2: the elements behind what is taken out of a queue of any size, from both ends and from between.
func TestOutOfEachSize(t *testing.T) {
	for _, most := range sizes {
		q := numbered(t, most, func(i int) int { return i / 5 })
		low, high := 0, most-1
		for low <= high {
			tells(t, "Pop", q.Pop, kept[int, int]{low / 5, low, low})
			low++
			if low > high {
				break
			}
			tells(t, "PopLast", q.PopLast, kept[int, int]{high / 5, high, high})
			high--
			if between := (low + high) / 2; low < between {
				if n, ok := q.Rank(between); n != between-low || !ok {
					t.Fatalf("Rank(%d): %d, %v and not %d", between, n, ok, between-low)
				}
			}
		}
		is(t, q)
	}
}

// 6.2: behind Clear there is nothing, as in a new queue, but for the tickets.
func TestClear(t *testing.T) {
	for _, most := range sizes {
		q := numbered(t, most, func(i int) int { return -i })
		q.Clear()
		is(t, q)
		for ticket := range most {
			hasNot(t, q, ticket, 0)
		}
		keys, values := q.Until(math.MaxInt)
		if len(keys) != 0 || len(values) != 0 {
			t.Fatal("Until:", keys, values)
		}
		tellsNone(t, "Pop", q.Pop)
		tellsNone(t, "PopLast", q.PopLast)
		puts(t, q, 4, 1, most)
		is(t, q, kept[int, int]{4, 1, most})
	}
	q := made[int, string](t, 1)
	q.Clear()
	is(t, q)
	puts(t, q, 0, "", 0)
	is(t, q, of{0, "", 0})
}

// ofKeys asks a queue of some type's keys, which rise, for their order.
func ofKeys[K cmp.Ordered, V comparable](t *testing.T, v V, keys ...K) {
	t.Helper()
	q := made[K, V](t, 2*len(keys))
	var want []kept[K, V]
	n := len(keys)
	for i := range n {
		puts(t, q, keys[n-1-i], v, i)
	}
	for i := range n {
		puts(t, q, keys[i], v, n+i)
		want = append(want, kept[K, V]{keys[i], v, n - 1 - i}, kept[K, V]{keys[i], v, n + i})
	}
	isFull(t, q, keys[0], v)
	is(t, q, want...)
	for i, e := range want {
		if !q.Change(e.ticket, e.key) {
			t.Fatal("Change", e)
		}
		if i%2 == 1 { // both were changed, one behind the other
			is(t, q, want...)
		}
	}
	goesOver(t, "Merge", queue.Merge(q), want...)
	c := q.Copy()
	comesOut(t, q, want...)
	for i, k := range keys {
		got, values := c.Until(k)
		if len(got) != 2 || len(values) != 2 || got[0] != k || got[1] != k || values[0] != v || values[1] != v {
			t.Fatal("Until", i, got, values)
		}
	}
	is(t, c)
}

// 6.1, 6.2, 6.6: keys and values of several types.
func TestKeysOfSeveralTypes(t *testing.T) {
	type name string
	type degree float32
	ofKeys(t, "a", math.MinInt, -1, 0, 1, math.MaxInt)
	ofKeys[int8](t, 1.5, -128, -1, 0, 127)
	ofKeys[uint8](t, true, 0, 1, 127, 128, 255)
	ofKeys[uint64](t, [2]int{1, 2}, 0, 1<<63-1, 1<<63, math.MaxUint64)
	ofKeys[uintptr](t, 'a', 0, 1, 2)
	ofKeys(t, struct{}{}, "", "\x00", "A", "B", "a", "a\x00", "aa", "b", "\xc3\xa4", "\xff")
	ofKeys[name, any](t, 1, name(""), name("x"), name("xy"))
	ofKeys(t, int64(9), math.Inf(-1), -math.MaxFloat64, -1.5, -math.SmallestNonzeroFloat64, 0, math.SmallestNonzeroFloat64, 0.1, 1e300, math.Inf(1))
	ofKeys[degree](t, new(int), -0.5, 0, 0.25)
}

// 6.2: below zero and above, zero is one key.
func TestZeroes(t *testing.T) {
	q := made[float64, string](t, 9)
	minus := math.Copysign(0, -1)
	puts(t, q, 0, "a", 0)
	puts(t, q, minus, "b", 1)
	puts(t, q, 0, "c", 2)
	is(t, q, kept[float64, string]{0, "a", 0}, kept[float64, string]{0, "b", 1}, kept[float64, string]{0, "c", 2})
	if k, _, _ := q.Get(1); !math.Signbit(k) {
		t.Error("the key is not as it was put in:", k)
	}
	if keys, _ := q.Until(minus); len(keys) != 3 {
		t.Error("Until:", keys)
	}
}

// R1: keys that are no numbers have no order that is promised, but calls end, none panics, and what was put in comes out once.
func TestKeysThatAreNoNumbers(t *testing.T) {
	const most = 1500
	keys := []float64{math.NaN(), 1, math.Inf(1), -math.NaN(), -3, math.Inf(-1), 0}
	q := made[float64, int](t, most)
	for i := range most {
		puts(t, q, keys[i%len(keys)], i, i)
	}
	for i := range most {
		if !q.Change(i*7%most, keys[i*3%len(keys)]) {
			t.Fatal("Change", i)
		}
		if _, ok := q.Rank(i); !ok {
			t.Fatal("Rank", i)
		}
	}
	for range queue.Merge(q, q.Copy(), q) {
	}
	seen := map[int]bool{}
	for i := range most {
		if i%3 == 0 {
			if v, ok := q.Remove(i); ok {
				seen[v] = true
			}
		} else if _, v, ticket, ok := q.Pop(); ok && v == ticket {
			seen[v] = true
		}
	}
	_, values := q.Until(math.Inf(1))
	for _, v := range values {
		seen[v] = true
	}
	q.Until(math.NaN())
	if len(seen) != most || q.Len() != 0 {
		t.Errorf("%d of %d came out, %d are left", len(seen), most, q.Len())
	}
}

// 6.1: keys and values may be great; a queue of many needs room for those that are there.
func TestGreatValues(t *testing.T) {
	q := made[int, [1 << 20]byte](t, api.MaxQueue)
	v := [1 << 20]byte{1<<20 - 1: 9}
	puts(t, q, 1, v, 0)
	v[0] = 1
	puts(t, q, 0, v, 1)
	tells(t, "Pop", q.Pop, kept[int, [1 << 20]byte]{0, v, 1})
	v[0] = 0
	tells(t, "Pop", q.Pop, kept[int, [1 << 20]byte]{1, v, 0})
}
