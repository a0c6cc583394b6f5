package queue_test

import (
	"slices"
	"testing"

	"herald/api"
	"herald/queue"
)

// The chapter's first example.
func TestExampleOfAQueue(t *testing.T) {
	q := filled(t, 5, 3, 5)
	is(t, q, of{3, "b", 1}, of{5, "a", 0}, of{5, "c", 2})
	tells(t, "Last", q.Last, of{5, "c", 2})
	if !q.Change(0, 5) {
		t.Error("Change")
	}
	is(t, q, of{3, "b", 1}, of{5, "c", 2}, of{5, "a", 0})
	tells(t, "Pop", q.Pop, of{3, "b", 1})
	if v, ok := q.Remove(1); v != "" || ok {
		t.Error("Remove:", v, ok)
	}
	q.Clear()
	puts(t, q, 1, "d", 3)
}

// The second one.
func TestExampleOfRoom(t *testing.T) {
	if q, e := queue.New[int, string](0); q != nil || e != api.ErrRoom {
		t.Error("New:", q, e)
	}
	q := made[int, string](t, 1)
	puts(t, q, 1, "a", 0)
	isFull(t, q, 1, "b")
	tells(t, "Pop", q.Pop, of{1, "a", 0})
	puts(t, q, 1, "b", 1)
}

// The third one.
func TestExampleOfMore(t *testing.T) {
	q := filled(t, 5, 3, 5, 7)
	if n, ok := q.Rank(2); n != 2 || !ok {
		t.Error("Rank:", n, ok)
	}
	keys, values := q.Until(5)
	if !slices.Equal(keys, []int{3, 5, 5}) || !slices.Equal(values, []string{"b", "a", "c"}) {
		t.Error("Until:", keys, values)
	}
	is(t, q, of{7, "d", 3})
	a, b := made[int, string](t, 9), made[int, string](t, 9)
	puts(t, a, 1, "a", 0)
	puts(t, a, 3, "b", 1)
	puts(t, b, 1, "c", 0)
	puts(t, b, 2, "d", 1)
	goesOver(t, "Merge", queue.Merge(a, b), of{key: 1, value: "a"}, of{key: 1, value: "c"}, of{key: 2, value: "d"}, of{key: 3, value: "b"})
}
