package queue_test

import (
	"math"
	"testing"

	"herald/api"
	"herald/queue"
)

// 6.1
func TestNewRefuses(t *testing.T) {
	for _, most := range []int{math.MinInt, -1 << 32, -api.MaxQueue, -2, -1, 0, api.MaxQueue + 1, 2 * api.MaxQueue, 1 << 32, 1<<32 + 1, math.MaxInt} {
		if q, e := queue.New[int, int](most); q != nil || e != api.ErrRoom {
			t.Errorf("New(%d): %v, %d", most, q, e)
		}
		if q, e := queue.New[string, struct{}](most); q != nil || e != api.ErrRoom {
			t.Errorf("New(%d) of values without size: %v, %d", most, q, e)
		}
	}
}

// 6.1: a new queue has nothing, and room for just so many.
func TestNewIsEmpty(t *testing.T) {
	for _, most := range append(sizes, api.MaxQueue-1, api.MaxQueue) {
		q := made[int, int](t, most)
		is(t, q)
		for i := range most {
			puts(t, q, i/3, i, i)
		}
		if q.Len() != most {
			t.Fatalf("Len: %d and not %d", q.Len(), most)
		}
		isFull(t, q, -1, 1)
		isFull(t, q, math.MaxInt, 1)
	}
}

// 6.1: a queue of the greatest size, whatever the order in which keys come.
func TestGreatestQueue(t *testing.T) {
	for name, key := range map[string]func(int) int{
		"rising":    func(i int) int { return i },
		"falling":   func(i int) int { return -i },
		"equal":     func(i int) int { return 7 },
		"far apart": func(i int) int { return i * 40503 % api.MaxQueue },
	} {
		q := numbered(t, api.MaxQueue, key)
		isFull(t, q, 0, 0)
		last, lastTicket := math.MinInt, -1
		for n := range api.MaxQueue {
			k, v, ticket, ok := q.Pop()
			if !ok || v != ticket || k != key(ticket) || k < last || k == last && ticket <= lastTicket {
				t.Fatalf("%s: Pop %d: %d, %d, %d, %v", name, n, k, v, ticket, ok)
			}
			last, lastTicket = k, ticket
		}
		is(t, q)
		puts(t, q, 1, 2, api.MaxQueue)
	}
}

// 6.1: tickets go on, whatever is taken out, in whichever way, and a Put that is refused takes none.
func TestTicketsGoOn(t *testing.T) {
	q := made[int, string](t, 2)
	puts(t, q, 5, "a", 0)
	puts(t, q, 3, "b", 1)
	isFull(t, q, 1, "x")
	isFull(t, q, 9, "x")
	tells(t, "Pop", q.Pop, of{3, "b", 1})
	puts(t, q, 9, "c", 2)
	isFull(t, q, 1, "x")
	tells(t, "PopLast", q.PopLast, of{9, "c", 2})
	puts(t, q, 9, "d", 3)
	q.Remove(3)
	puts(t, q, 9, "e", 4)
	q.Until(9)
	puts(t, q, 9, "f", 5)
	q.Change(5, 1)
	puts(t, q, 9, "g", 6)
	isFull(t, q, 1, "x")
	q.Clear()
	puts(t, q, 9, "h", 7)
	q.Clear()
	q.Clear()
	puts(t, q, 9, "i", 8)
	is(t, q, of{9, "i", 8})
}

// 6.1, R2: a Put that is refused changes nothing.
func TestRefusedPut(t *testing.T) {
	q := made[int, string](t, 3)
	puts(t, q, 2, "a", 0)
	puts(t, q, 1, "b", 1)
	puts(t, q, 2, "c", 2)
	for _, k := range []int{math.MinInt, 0, 1, 2, 3, math.MaxInt} {
		isFull(t, q, k, "x")
		is(t, q, of{1, "b", 1}, of{2, "a", 0}, of{2, "c", 2})
	}
	q.Change(0, 2)
	is(t, q, of{1, "b", 1}, of{2, "c", 2}, of{2, "a", 0})
	tells(t, "Pop", q.Pop, of{1, "b", 1})
	puts(t, q, 2, "d", 3)
	is(t, q, of{2, "c", 2}, of{2, "a", 0}, of{2, "d", 3})
}

// 6.1: room is what is left now, not what was ever put in.
func TestRoomComesBack(t *testing.T) {
	for _, most := range sizes {
		q := numbered(t, most, func(i int) int { return -i })
		ticket := most
		for _, out := range []func(){
			func() { q.Pop() },
			func() { q.PopLast() },
			func() { q.Remove(ticket - 1) },
		} {
			isFull(t, q, 0, 0)
			out()
			puts(t, q, 0, ticket, ticket)
			ticket++
		}
		isFull(t, q, 0, 0)
		q.Clear()
		for range most {
			puts(t, q, 0, ticket, ticket)
			ticket++
		}
		isFull(t, q, 0, 0)
	}
}
