package queue_test

import (
	"iter"
	"slices"
	"testing"
)

// 6.3
func TestAllOfAnEmptyQueue(t *testing.T) {
	q := made[int, string](t, 3)
	all := q.All()
	goesOver(t, "a new queue", all)
	goesOver(t, "a new queue again", all)
	puts(t, q, 1, "a", 0)
	goesOver(t, "what was empty", all)
	q.Pop()
	goesOver(t, "an emptied queue", q.All())
	puts(t, q, 1, "a", 1)
	q.Clear()
	goesOver(t, "a cleared queue", q.All())
}

// again asks an iterator to be left at any time, gone over again from its beginning, and nested; whoever left is not called any more.
func again(t *testing.T, all iter.Seq2[int, string], want ...of) {
	t.Helper()
	for n := range len(want) + 2 {
		if got := met(all, n); !slices.Equal(got, want[:min(n, len(want))]) {
			t.Errorf("left behind %d: %v", n, got)
		}
		goesOver(t, "again", all, want...)
	}
	var around []of
	for k, v := range all {
		around = append(around, of{key: k, value: v})
		goesOver(t, "within", all, want...)
	}
	if !slices.Equal(around, want) {
		t.Error("around:", around)
	}
	for left := range want {
		calls := 0
		all(func(int, string) bool {
			calls++
			return calls <= left
		})
		if calls != left+1 {
			t.Errorf("left at call %d: %d calls", left+1, calls)
		}
	}
}

// 6.3
func TestAllAgain(t *testing.T) {
	q := filled(t, 2, 1, 2)
	again(t, q.All(), of{key: 1, value: "b"}, of{key: 2, value: "a"}, of{key: 2, value: "c"})
	again(t, made[int, string](t, 1).All())
}

// 6.3: what is done to the queue while All is gone over has no part in it, and is done.
func TestAllWithCallsMeanwhile(t *testing.T) {
	q := filled(t, 1, 2, 3, 4, 5)
	all := q.All()
	want := []of{{key: 1, value: "a"}, {key: 2, value: "b"}, {key: 3, value: "c"}, {key: 4, value: "d"}, {key: 5, value: "e"}}
	var got []of
	for k, v := range all {
		got = append(got, of{key: k, value: v})
		switch k {
		case 1:
			q.Change(2, 9)
			q.Change(4, 0)
			puts(t, q, 2, "f", 5)
		case 2:
			tells(t, "Pop", q.Pop, of{0, "e", 4})
			q.Remove(3)
		case 3:
			is(t, q, of{1, "a", 0}, of{2, "b", 1}, of{2, "f", 5}, of{9, "c", 2})
			q.Until(2)
			puts(t, q, 7, "g", 6)
		case 4:
			is(t, q, of{7, "g", 6}, of{9, "c", 2})
			q.Clear()
		}
	}
	if !slices.Equal(got, want) {
		t.Error("with calls meanwhile:", got)
	}
	goesOver(t, "behind the calls", all, want...)
	is(t, q)
}

// 6.3: it tells what was when All was called, not when it is gone over; each All its own.
func TestAllIsOfItsTime(t *testing.T) {
	q := made[int, string](t, 2)
	first := q.All()
	puts(t, q, 2, "a", 0)
	second := q.All()
	puts(t, q, 1, "b", 1)
	third := q.All()
	q.Change(0, 0)
	fourth := q.All()
	q.Pop()
	fifth := q.All()
	q.Clear()
	for range 2 {
		goesOver(t, "first", first)
		goesOver(t, "second", second, of{key: 2, value: "a"})
		goesOver(t, "third", third, of{key: 1, value: "b"}, of{key: 2, value: "a"})
		goesOver(t, "fourth", fourth, of{key: 0, value: "a"}, of{key: 1, value: "b"})
		goesOver(t, "fifth", fifth, of{key: 1, value: "b"})
	}
}

// 6.3, R5: going over has no part in what calls answer.
func TestAllChangesNothing(t *testing.T) {
	for _, most := range sizes {
		q, p := numbered(t, most, func(i int) int { return i % 7 }), plain{most: most}
		for i := range most {
			p.put(i%7, i)
		}
		for range 2 {
			for range q.All() {
				break
			}
			goesOver(t, "All", q.All(), p.ordered()...)
		}
		if most < 600 {
			comesOut(t, q, p.ordered()...)
		}
	}
}

// 6.3: while all is popped within, all is still gone over.
func TestAllPoppedMeanwhile(t *testing.T) {
	for _, most := range sizes {
		q := numbered(t, most, func(i int) int { return -i })
		next := most - 1
		for k, v := range q.All() {
			if k != -next || v != next {
				t.Fatalf("of %d: %d, %d and not %d", most, k, v, next)
			}
			q.PopLast()
			next--
		}
		if next != -1 || q.Len() != 0 {
			t.Errorf("of %d: %d left, and %d kept", most, next+1, q.Len())
		}
	}
}
