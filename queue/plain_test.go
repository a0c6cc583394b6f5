package queue_test

import (
	"cmp"
	"iter"
	"math"
	"slices"
	"testing"

	"herald/api"
	"herald/queue"
)

// kept is an element as calls tell it.
type kept[K cmp.Ordered, V comparable] struct {
	key    K
	value  V
	ticket int
}

// of is an element of the kind that most tests have.
type of = kept[int, string]

// sizes is how many elements tests put in: few, and about where the package's inner lists are cut.
var sizes = []int{1, 2, 3, 255, 256, 257, 511, 512, 513, 514, 1025, 3000}

// noTickets is numbers that no element has.
var noTickets = []int{math.MinInt, math.MinInt + 1, -1 << 32, -2, -1, 1 << 31, 1 << 32, math.MaxInt - 1, math.MaxInt}

// made is a queue of nothing.
func made[K cmp.Ordered, V any](t *testing.T, most int) *queue.Queue[K, V] {
	t.Helper()
	q, e := queue.New[K, V](most)
	if q == nil || e != api.OK {
		t.Fatalf("New(%d): %v, %d", most, q, e)
	}
	return q
}

// puts asks Put to take an element, by a ticket.
func puts[K cmp.Ordered, V any](t *testing.T, q *queue.Queue[K, V], k K, v V, ticket int) {
	t.Helper()
	if got, e := q.Put(k, v); got != ticket || e != api.OK {
		t.Fatalf("Put(%v, %v): %d, %d and not %d", k, v, got, e, ticket)
	}
}

// isFull asks Put to refuse.
func isFull[K cmp.Ordered, V any](t *testing.T, q *queue.Queue[K, V], k K, v V) {
	t.Helper()
	if got, e := q.Put(k, v); got != 0 || e != api.ErrFull {
		t.Fatalf("Put(%v, %v) of a full queue: %d, %d", k, v, got, e)
	}
}

// filled is a queue with an element of each key, in their order: its values are the letters from a on, its tickets the numbers from 0 on.
func filled(t *testing.T, keys ...int) *queue.Queue[int, string] {
	t.Helper()
	q := made[int, string](t, api.MaxQueue)
	for i, k := range keys {
		puts(t, q, k, string(rune('a'+i)), i)
	}
	return q
}

// numbered is a queue of so many elements, whose keys the function tells and whose values are the tickets.
func numbered(t *testing.T, most int, key func(int) int) *queue.Queue[int, int] {
	t.Helper()
	q := made[int, int](t, most)
	for i := range most {
		puts(t, q, key(i), i, i)
	}
	return q
}

// tells asks what a call says of an element.
func tells[K cmp.Ordered, V comparable](t *testing.T, what string, call func() (K, V, int, bool), want kept[K, V]) {
	t.Helper()
	if k, v, ticket, ok := call(); k != want.key || v != want.value || ticket != want.ticket || !ok {
		t.Fatalf("%s: %v, %v, %d, %v and not %v", what, k, v, ticket, ok, want)
	}
}

// tellsNone asks a call to say that there is nothing.
func tellsNone[K cmp.Ordered, V comparable](t *testing.T, what string, call func() (K, V, int, bool)) {
	t.Helper()
	var none kept[K, V]
	if k, v, ticket, ok := call(); (kept[K, V]{k, v, ticket}) != none || ok {
		t.Fatalf("%s of nothing: %v, %v, %d, %v", what, k, v, ticket, ok)
	}
}

// hasNot asks each call to find no element with a ticket.
func hasNot[K cmp.Ordered, V comparable](t *testing.T, q *queue.Queue[K, V], ticket int, k K) {
	t.Helper()
	var none kept[K, V]
	if key, v, ok := q.Get(ticket); (kept[K, V]{key, v, 0}) != none || ok {
		t.Fatalf("Get(%d): %v, %v, %v", ticket, key, v, ok)
	}
	if q.Change(ticket, k) {
		t.Fatalf("Change(%d)", ticket)
	}
	if v, ok := q.Remove(ticket); v != none.value || ok {
		t.Fatalf("Remove(%d): %v, %v", ticket, v, ok)
	}
	if n, ok := q.Rank(ticket); n != 0 || ok {
		t.Fatalf("Rank(%d): %d, %v", ticket, n, ok)
	}
}

// is asks a queue for its elements in their order, by all calls that tell them and take none out.
func is[K cmp.Ordered, V comparable](t *testing.T, q *queue.Queue[K, V], want ...kept[K, V]) {
	t.Helper()
	if q.Len() != len(want) {
		t.Fatalf("Len: %d and not %d", q.Len(), len(want))
	}
	if len(want) == 0 {
		tellsNone(t, "First", q.First)
		tellsNone(t, "Last", q.Last)
	} else {
		tells(t, "First", q.First, want[0])
		tells(t, "Last", q.Last, want[len(want)-1])
	}
	goesOver(t, "All", q.All(), want...)
	for i, e := range want {
		if k, v, ok := q.Get(e.ticket); k != e.key || v != e.value || !ok {
			t.Fatalf("Get(%d): %v, %v, %v and not %v", e.ticket, k, v, ok, e)
		}
		if n, ok := q.Rank(e.ticket); n != i || !ok {
			t.Fatalf("Rank(%d): %d, %v and not %d", e.ticket, n, ok, i)
		}
	}
	for _, ticket := range noTickets {
		hasNot(t, q, ticket, kept[K, V]{}.key)
	}
}

// comesOut asks Pop for all elements, in their order.
func comesOut[K cmp.Ordered, V comparable](t *testing.T, q *queue.Queue[K, V], want ...kept[K, V]) {
	t.Helper()
	for i, e := range want {
		if q.Len() != len(want)-i {
			t.Fatalf("Len: %d and not %d", q.Len(), len(want)-i)
		}
		tells(t, "Pop", q.Pop, e)
		hasNot(t, q, e.ticket, e.key)
	}
	tellsNone(t, "Pop", q.Pop)
	tellsNone(t, "PopLast", q.PopLast)
}

// goesOver asks an iterator for the keys and values of just these.
func goesOver[K cmp.Ordered, V comparable](t *testing.T, what string, all iter.Seq2[K, V], want ...kept[K, V]) {
	t.Helper()
	if got := met(all, math.MaxInt); !slices.Equal(got, withoutTickets(want)) {
		t.Fatalf("%s: %v and not %v", what, got, want)
	}
}

// met is what an iterator goes over, at most so much of it, without tickets.
func met[K cmp.Ordered, V comparable](all iter.Seq2[K, V], most int) []kept[K, V] {
	var l []kept[K, V]
	for k, v := range all {
		if len(l) == most {
			break
		}
		l = append(l, kept[K, V]{key: k, value: v})
	}
	return l
}

// withoutTickets is elements as iterators tell them.
func withoutTickets[K cmp.Ordered, V comparable](l []kept[K, V]) []kept[K, V] {
	l = slices.Clone(l)
	for i := range l {
		l[i].ticket = 0
	}
	return l
}

// plain is a queue by the words of the promises: its elements stand as they came.
type plain struct {
	most, tickets int
	came          []kept[int, int]
}

// put is Put's words.
func (p *plain) put(k, v int) (int, api.Errno) {
	if len(p.came) == p.most {
		return 0, api.ErrFull
	}
	p.came = append(p.came, kept[int, int]{k, v, p.tickets})
	p.tickets++
	return p.tickets - 1, api.OK
}

// ordered is all elements in the order.
func (p *plain) ordered() []kept[int, int] {
	l := slices.Clone(p.came)
	slices.SortStableFunc(l, func(a, b kept[int, int]) int { return a.key - b.key })
	return l
}

// out takes out the element with a ticket; all zero, if none has it.
func (p *plain) out(ticket int) (kept[int, int], bool) {
	for i, e := range p.came {
		if e.ticket == ticket {
			p.came = slices.Delete(p.came, i, i+1)
			return e, true
		}
	}
	return kept[int, int]{}, false
}

// change is Change's words.
func (p *plain) change(ticket, k int) bool {
	e, ok := p.out(ticket)
	if ok {
		p.came = append(p.came, kept[int, int]{k, e.value, ticket})
	}
	return ok
}

// spread is numbers from 0 to less than a bound, in no order that the eye could tell, always the same ones.
type spread uint64

func (s *spread) below(bound int) int {
	*s = *s*6364136223846793005 + 1442695040888963407
	return int(*s>>33) % bound
}
