package queue_test

import (
	"math"
	"slices"
	"testing"
)

// 6.2: what is changed has the new key, and comes behind all others of it; also behind those that came later than it did.
func TestChange(t *testing.T) {
	for name, c := range map[string]struct {
		ticket, key int
		want        []of
	}{
		"first to the same":      {0, 1, []of{{1, "c", 2}, {1, "a", 0}, {3, "b", 1}, {3, "d", 3}, {5, "e", 4}}},
		"last to the same":       {4, 5, []of{{1, "a", 0}, {1, "c", 2}, {3, "b", 1}, {3, "d", 3}, {5, "e", 4}}},
		"middle to the same":     {1, 3, []of{{1, "a", 0}, {1, "c", 2}, {3, "d", 3}, {3, "b", 1}, {5, "e", 4}}},
		"late one to the same":   {3, 3, []of{{1, "a", 0}, {1, "c", 2}, {3, "b", 1}, {3, "d", 3}, {5, "e", 4}}},
		"to a lesser":            {1, 2, []of{{1, "a", 0}, {1, "c", 2}, {2, "b", 1}, {3, "d", 3}, {5, "e", 4}}},
		"to a lesser that is":    {1, 1, []of{{1, "a", 0}, {1, "c", 2}, {1, "b", 1}, {3, "d", 3}, {5, "e", 4}}},
		"to the least":           {4, math.MinInt, []of{{math.MinInt, "e", 4}, {1, "a", 0}, {1, "c", 2}, {3, "b", 1}, {3, "d", 3}}},
		"to a greater":           {0, 4, []of{{1, "c", 2}, {3, "b", 1}, {3, "d", 3}, {4, "a", 0}, {5, "e", 4}}},
		"to a greater that is":   {0, 3, []of{{1, "c", 2}, {3, "b", 1}, {3, "d", 3}, {3, "a", 0}, {5, "e", 4}}},
		"to the greatest":        {0, math.MaxInt, []of{{1, "c", 2}, {3, "b", 1}, {3, "d", 3}, {5, "e", 4}, {math.MaxInt, "a", 0}}},
		"to the greatest so far": {2, 5, []of{{1, "a", 0}, {3, "b", 1}, {3, "d", 3}, {5, "e", 4}, {5, "c", 2}}},
	} {
		q := filled(t, 1, 3, 1, 3, 5)
		if !q.Change(c.ticket, c.key) {
			t.Error(name)
		}
		is(t, q, c.want...)
		puts(t, q, c.key, "f", 5) // and what is put in then is behind it
		at := slices.IndexFunc(c.want, func(e of) bool { return e.ticket == c.ticket })
		is(t, q, slices.Insert(slices.Clone(c.want), at+1, of{c.key, "f", 5})...)
	}
}

// 6.2: what is changed is full of its ticket and value; room is not asked for.
func TestChangeOfAFullQueue(t *testing.T) {
	q := made[string, int](t, 2)
	puts(t, q, "x", 7, 0)
	puts(t, q, "y", 8, 1)
	for range 3 {
		if !q.Change(0, "z") || !q.Change(1, "z") {
			t.Error("Change")
		}
		is(t, q, kept[string, int]{"z", 7, 0}, kept[string, int]{"z", 8, 1})
	}
	isFull(t, q, "a", 1)
	if !q.Change(0, "") {
		t.Error("Change")
	}
	is(t, q, kept[string, int]{"", 7, 0}, kept[string, int]{"z", 8, 1})
}

// 6.2: tickets that were never given, that were taken out, and below 0.
func TestNoSuchTicket(t *testing.T) {
	q := filled(t, 4, 3, 2, 1, 5)
	q.Pop()
	q.PopLast()
	q.Remove(1)
	for _, ticket := range append(slices.Clone(noTickets), 1, 3, 4, 5, 6) {
		hasNot(t, q, ticket, 0)
		is(t, q, of{2, "c", 2}, of{4, "a", 0})
	}
	q.Clear()
	for ticket := range 6 {
		hasNot(t, q, ticket, 0)
	}
	puts(t, q, 0, "f", 5)
	hasNot(t, q, 4, 9)
	hasNot(t, q, 6, 9)
	is(t, q, of{0, "f", 5})
}

// 6.2: a Change that finds nothing is no arrival: the order is as it was.
func TestChangeOfNothing(t *testing.T) {
	q := filled(t, 1, 1)
	for _, ticket := range noTickets {
		if q.Change(ticket, 1) {
			t.Error("Change", ticket)
		}
	}
	puts(t, q, 1, "c", 2)
	is(t, q, of{1, "a", 0}, of{1, "b", 1}, of{1, "c", 2})
}

// 6.2: an element of zero values is one; true tells it from none.
func TestZeroValuesAreKept(t *testing.T) {
	q := made[int, string](t, 3)
	puts(t, q, 0, "", 0)
	tells(t, "First", q.First, of{})
	tells(t, "Last", q.Last, of{})
	if k, v, ok := q.Get(0); k != 0 || v != "" || !ok {
		t.Error("Get:", k, v, ok)
	}
	if n, ok := q.Rank(0); n != 0 || !ok {
		t.Error("Rank:", n, ok)
	}
	if v, ok := q.Remove(0); v != "" || !ok {
		t.Error("Remove:", v, ok)
	}
	is(t, q)
	hasNot(t, q, 0, 0)
}

// 6.2: what is removed, from each place of queues of each size, is what has the ticket, and it alone.
func TestRemove(t *testing.T) {
	for _, most := range sizes {
		if most > 600 {
			continue
		}
		for _, step := range []int{1, 7, 101} {
			q := numbered(t, most, func(i int) int { return i % 3 })
			p := plain{most: most}
			for i := range most {
				p.put(i%3, i)
			}
			for n := range most {
				ticket := (n*step + most/2) % most
				want, ok := p.out(ticket)
				if v, got := q.Remove(ticket); v != want.value || got != ok {
					t.Fatalf("of %d: Remove(%d): %d, %v and not %d, %v", most, ticket, v, got, want.value, ok)
				}
				hasNot(t, q, ticket, 1)
				if n%97 == 0 {
					is(t, q, p.ordered()...)
				}
			}
			is(t, q, p.ordered()...)
		}
	}
}

// 6.6: each element's rank, at each size.
func TestRank(t *testing.T) {
	for _, most := range sizes {
		q := numbered(t, most, func(i int) int { return -i })
		for ticket := range most {
			if n, ok := q.Rank(ticket); n != most-1-ticket || !ok {
				t.Fatalf("of %d: Rank(%d): %d, %v", most, ticket, n, ok)
			}
		}
		q.Change(0, -most)
		if n, ok := q.Rank(0); n != 0 || !ok {
			t.Fatalf("of %d: Rank of what is first now: %d, %v", most, n, ok)
		}
		hasNot(t, q, most, 0)
	}
	q := filled(t, 1, 1, 1)
	q.Change(0, 1)
	for ticket, want := range []int{2, 0, 1} {
		if n, ok := q.Rank(ticket); n != want || !ok {
			t.Errorf("Rank(%d): %d, %v", ticket, n, ok)
		}
	}
}
