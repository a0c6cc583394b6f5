package queue_test

import (
	"cmp"
	"math"
	"testing"

	"herald/api"
	"herald/queue"
)

// nothing asks a queue that keeps nothing and may keep nothing, by each call; k and v are no zero values.
func nothing[K cmp.Ordered, V comparable](t *testing.T, q *queue.Queue[K, V], k K, v V) {
	t.Helper()
	for range 2 {
		isFull(t, q, k, v)
		is(t, q)
		tellsNone(t, "Pop", q.Pop)
		tellsNone(t, "PopLast", q.PopLast)
		for _, ticket := range append(noTickets, 0, 1) {
			hasNot(t, q, ticket, k)
		}
		all := q.All()
		for range 2 {
			goesOver(t, "All", all)
		}
		if keys, values := q.Until(k); len(keys) != 0 || len(values) != 0 {
			t.Error("Until:", keys, values)
		}
		q.Clear()
	}
}

// 6.4, 6.6, 6.7
func TestNilQueue(t *testing.T) {
	var q *queue.Queue[int, string]
	nothing(t, q, 7, "a")
	nothing[string, bool](t, nil, "k", true)
	nothing[float64, any](t, nil, 0.5, 1)
	nothing[uint8](t, nil, 255, [2]string{"a"})
	if c := q.Copy(); c != nil {
		t.Error("Copy:", c)
	}
	goesOver(t, "Merge", queue.Merge(q))
	goesOver(t, "Merge", queue.Merge(q, nil, q))
}

// 6.1, 6.4: what New answers beside an error is such a queue.
func TestQueueOfAWrongSize(t *testing.T) {
	for _, most := range []int{math.MinInt, 0, api.MaxQueue + 1, math.MaxInt} {
		q, _ := queue.New[int, string](most)
		nothing(t, q, 7, "a")
	}
}

// R1: a Queue that no call gave has no room, and does not panic.
func TestQueueThatNoCallGave(t *testing.T) {
	var q queue.Queue[int, string]
	nothing(t, &q, 7, "a")
	c := q.Copy()
	nothing(t, c, 7, "a")
	goesOver(t, "Merge", queue.Merge(&q, c))
}
