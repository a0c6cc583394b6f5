package queue_test

import (
	"testing"

	"herald/api"
)

// 6.6: the same elements, tickets, order and room.
func TestCopy(t *testing.T) {
	for _, most := range sizes {
		q, p := numbered(t, most, func(i int) int { return i % 5 }), plain{most: most}
		for i := range most {
			p.put(i%5, i)
		}
		q.Change(most/2, 1)
		p.change(most/2, 1)
		c := q.Copy()
		is(t, c, p.ordered()...)
		is(t, q, p.ordered()...)
		isFull(t, c, 0, 0)
		c.Pop()
		puts(t, c, 0, 0, most)
		isFull(t, c, 0, 0)
		is(t, q, p.ordered()...)
	}
}

// 6.6: it goes on for itself, and so does the queue; tickets and arrivals go on from where they were, in both.
func TestCopyGoesOnForItself(t *testing.T) {
	q := filled(t, 1, 1, 2, 1)
	q.Change(0, 1)
	q.Remove(2)
	c := q.Copy()
	puts(t, c, 1, "e", 4)
	puts(t, c, 1, "f", 5)
	is(t, q, of{1, "b", 1}, of{1, "d", 3}, of{1, "a", 0})
	puts(t, q, 1, "x", 4)
	if !q.Change(1, 0) || !c.Change(3, 1) {
		t.Error("Change")
	}
	is(t, q, of{0, "b", 1}, of{1, "d", 3}, of{1, "a", 0}, of{1, "x", 4})
	is(t, c, of{1, "b", 1}, of{1, "a", 0}, of{1, "e", 4}, of{1, "f", 5}, of{1, "d", 3})
	tells(t, "Pop", q.Pop, of{0, "b", 1})
	q.Remove(3)
	hasNot(t, q, 3, 1)
	c.Until(0)
	is(t, c, of{1, "b", 1}, of{1, "a", 0}, of{1, "e", 4}, of{1, "f", 5}, of{1, "d", 3})
	c.Clear()
	is(t, c)
	puts(t, c, 0, "g", 6)
	is(t, q, of{1, "a", 0}, of{1, "x", 4})
	q.Clear()
	is(t, c, of{0, "g", 6})
	puts(t, q, 0, "y", 5)
}

// 6.6: of a queue of nothing, and of a copy.
func TestCopyOfACopy(t *testing.T) {
	q := made[int, string](t, 1)
	c := q.Copy()
	is(t, c)
	puts(t, c, 3, "a", 0)
	isFull(t, c, 3, "b")
	d := c.Copy()
	is(t, d, of{3, "a", 0})
	tells(t, "Pop", c.Pop, of{3, "a", 0})
	is(t, d, of{3, "a", 0})
	is(t, c)
	puts(t, c, 3, "b", 1)
	q.Put(1, "x")
	q.Clear()
	e := q.Copy()
	puts(t, e, 1, "z", 1) // tickets go on in a copy of a cleared one, too
}

// 6.6: of the greatest queue.
func TestCopyOfTheGreatest(t *testing.T) {
	q := numbered(t, api.MaxQueue, func(i int) int { return i * 40503 % 1000 })
	c := q.Copy()
	isFull(t, c, 0, 0)
	for range api.MaxQueue {
		k, v, ticket, ok := q.Pop()
		if l, w, other, also := c.Pop(); l != k || w != v || other != ticket || !ok || !also {
			t.Fatalf("%d, %d, %d and %d, %d, %d", k, v, ticket, l, w, other)
		}
	}
	is(t, c)
}
