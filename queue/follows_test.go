package queue_test

import (
	"math"
	"slices"
	"testing"

	"herald/api"
	"herald/queue"
)

// 6.1 to 6.6: calls in no order, held against the promises' words.
func TestCallsInNoOrder(t *testing.T) {
	for i, most := range []int{1, 2, 3, 10, 100, 700} {
		for _, keys := range []int{1, 3, 1000} {
			for _, tilt := range []int{30, 45, 60} { // of a hundred calls, how many put in
				noOrder(t, most, keys, tilt, spread(i))
			}
		}
	}
}

// noOrder makes calls of a queue and of a plain one, and asks both to answer the same.
func noOrder(t *testing.T, most, keys, tilt int, s spread) {
	t.Helper()
	q, p := made[int, int](t, most), &plain{most: most}
	for step := range 400 + 2*most {
		k, ticket := s.below(keys), s.below(p.tickets+2)-1
		call := s.below(100)
		switch {
		case call < tilt:
			want, e := p.put(k, step)
			if got, f := q.Put(k, step); got != want || f != e {
				t.Fatalf("step %d: Put: %d, %d and not %d, %d", step, got, f, want, e)
			}
		case call < 80:
			sameOut(t, q, p, call%3, ticket)
		case call < 98:
			if got, want := q.Change(ticket, k), p.change(ticket, k); got != want {
				t.Fatalf("step %d: Change: %v and not %v", step, got, want)
			}
		case call == 98:
			q = q.Copy()
		default:
			sameUntil(t, q, p, k/4)
		}
		if q.Len() != len(p.came) {
			t.Fatalf("step %d: Len: %d and not %d", step, q.Len(), len(p.came))
		}
		if step%(1+most/2) == 0 {
			is(t, q, p.ordered()...)
		}
	}
	is(t, q, p.ordered()...)
	comesOut(t, q, p.ordered()...)
}

// sameOut takes an element out of both, the first, the last or that with a ticket.
func sameOut(t *testing.T, q *queue.Queue[int, int], p *plain, way, ticket int) {
	t.Helper()
	all := p.ordered()
	switch {
	case way == 2:
		want, ok := p.out(ticket)
		if v, got := q.Remove(ticket); v != want.value || got != ok {
			t.Fatalf("Remove(%d): %d, %v and not %d, %v", ticket, v, got, want.value, ok)
		}
	case len(all) == 0:
		tellsNone(t, "Pop", q.Pop)
		tellsNone(t, "PopLast", q.PopLast)
	case way == 0:
		p.out(all[0].ticket)
		tells(t, "Pop", q.Pop, all[0])
	default:
		p.out(all[len(all)-1].ticket)
		tells(t, "PopLast", q.PopLast, all[len(all)-1])
	}
}

// sameUntil takes out of both what is due.
func sameUntil(t *testing.T, q *queue.Queue[int, int], p *plain, k int) {
	t.Helper()
	var wantKeys, wantValues []int
	for _, e := range p.ordered() {
		if e.key <= k {
			p.out(e.ticket)
			wantKeys, wantValues = append(wantKeys, e.key), append(wantValues, e.value)
		}
	}
	if keys, values := q.Until(k); !slices.Equal(keys, wantKeys) || !slices.Equal(values, wantValues) {
		t.Fatalf("Until(%d): %v, %v and not %v, %v", k, keys, values, wantKeys, wantValues)
	}
}

// 6.5: popped one behind the other, the keys never fall, equal ones come as they came, and each comes once.
func TestPopsNeverFall(t *testing.T) {
	s := spread(11)
	for _, most := range sizes {
		q := made[int, int](t, most)
		key := make([]int, most)
		for i := range most {
			key[i] = s.below(1 + most/4)
			puts(t, q, key[i], i, i)
		}
		last, lastTicket, seen := -1, -1, make([]bool, most)
		for range most {
			k, v, ticket, ok := q.Pop()
			if !ok || v != ticket || seen[v] || k != key[v] || k < last || k == last && ticket < lastTicket {
				t.Fatalf("of %d: %d, %d, %d, %v behind %d, %d", most, k, v, ticket, ok, last, lastTicket)
			}
			last, lastTicket, seen[v] = k, ticket, true
		}
		is(t, q)
	}
}

// 6.5: what is put in and taken out is what was put in, each once, whichever way it goes out.
func TestEachComesOutOnce(t *testing.T) {
	s := spread(12)
	q := made[int, int](t, 900)
	in, out := 0, map[int]int{}
	for range 6000 {
		switch s.below(10) {
		case 0:
			if _, v, ticket, ok := q.Pop(); ok {
				out[v]++
				hasNot(t, q, ticket, 0)
			}
		case 1:
			if _, v, _, ok := q.PopLast(); ok {
				out[v]++
			}
		case 2, 3:
			if v, ok := q.Remove(s.below(in + 1)); ok {
				out[v]++
			}
		case 4:
			q.Change(s.below(in+1), s.below(50))
		case 5:
			if s.below(100) == 0 {
				_, values := q.Until(s.below(5))
				for _, v := range values {
					out[v]++
				}
			}
		default:
			if ticket, e := q.Put(s.below(50), in); e == api.OK {
				if ticket != in {
					t.Fatalf("ticket %d and not %d", ticket, in)
				}
				in++
			}
		}
	}
	_, values := q.Until(math.MaxInt)
	for _, v := range values {
		out[v]++
	}
	for v := range in {
		if out[v] != 1 {
			t.Errorf("%d came out %d times", v, out[v])
		}
	}
	if len(out) != in || in < 1000 {
		t.Errorf("%d put in, %d came out", in, len(out))
	}
}

// 6.5, R5: two queues, asked in turns, have no part in one another.
func TestTwoQueues(t *testing.T) {
	a, b := made[int, string](t, 3), made[int, string](t, 3)
	puts(t, a, 2, "a0", 0)
	puts(t, b, 1, "b0", 0)
	puts(t, b, 1, "b1", 1)
	puts(t, a, 2, "a1", 1)
	ofA := a.All()
	puts(t, b, 0, "b2", 2)
	isFull(t, b, 0, "x")
	if !a.Change(0, 2) {
		t.Error("Change")
	}
	is(t, a, of{2, "a1", 1}, of{2, "a0", 0})
	is(t, b, of{0, "b2", 2}, of{1, "b0", 0}, of{1, "b1", 1})
	hasNot(t, a, 2, 1)
	if v, ok := b.Remove(0); v != "b0" || !ok {
		t.Error("Remove:", v, ok)
	}
	a.Clear()
	is(t, a)
	is(t, b, of{0, "b2", 2}, of{1, "b1", 1})
	puts(t, a, 9, "a2", 2)
	puts(t, b, 1, "b3", 3)
	tells(t, "Pop", b.Pop, of{0, "b2", 2})
	is(t, a, of{9, "a2", 2})
	is(t, b, of{1, "b1", 1}, of{1, "b3", 3})
	goesOver(t, "of the one", ofA, of{key: 2, value: "a0"}, of{key: 2, value: "a1"})
}

// R5: the same calls on several queues answer the same, alone and in turns.
func TestManyQueuesInTurns(t *testing.T) {
	const steps = 1500
	var queues []*queue.Queue[int, int]
	for _, most := range sizes {
		queues = append(queues, made[int, int](t, most))
	}
	got, s := make([][]int, len(sizes)), make([]spread, len(sizes))
	for step := range steps {
		for i, q := range queues {
			got[i] = append(got[i], oneCall(q, step, &s[i])...)
		}
	}
	for i, most := range sizes {
		q, s := made[int, int](t, most), spread(0)
		var alone []int
		for step := range steps {
			alone = append(alone, oneCall(q, step, &s)...)
		}
		if !slices.Equal(got[i], alone) {
			t.Errorf("a queue of %d answers otherwise in turns", most)
		}
	}
}

// oneCall is what one of the calls answers, which one the numbers tell.
func oneCall(q *queue.Queue[int, int], step int, s *spread) []int {
	ticket := s.below(step + 1)
	switch s.below(12) {
	case 0:
		k, v, n, _ := q.Pop()
		return []int{k, v, n, q.Len()}
	case 1:
		k, v, n, _ := q.PopLast()
		return []int{k, v, n, q.Len()}
	case 2:
		v, _ := q.Remove(ticket)
		return []int{v, q.Len()}
	case 3:
		k, v, _ := q.Get(ticket)
		return []int{k, v}
	case 4:
		q.Change(ticket, s.below(9))
		k, v, n, _ := q.First()
		return []int{k, v, n}
	case 5:
		n, _ := q.Rank(ticket)
		return []int{n}
	default:
		n, e := q.Put(s.below(30), step)
		return []int{n, int(e)}
	}
}

// R1: no call panics, at any ticket and key, on a nil queue, a new one, a full one, one of which some was taken out, a cleared one and a copy.
func TestNothingPanics(t *testing.T) {
	some := numbered(t, 600, func(i int) int { return i % 9 })
	for ticket := 0; ticket < 600; ticket += 3 {
		some.Remove(ticket)
	}
	cleared := numbered(t, 600, func(i int) int { return i })
	cleared.Clear()
	full := numbered(t, 600, func(i int) int { return -i })
	for _, q := range []*queue.Queue[int, int]{nil, {}, made[int, int](t, 1), full, some, cleared, some.Copy()} {
		for _, ticket := range append(slices.Clone(noTickets), 0, 1, 2, 299, 300, 599, 600) {
			q.Get(ticket)
			q.Rank(ticket)
			q.Change(ticket, ticket)
			q.Remove(ticket)
			q.Remove(ticket)
			q.Change(ticket, ticket)
			q.Put(ticket, ticket)
			q.Pop()
			q.PopLast()
			q.First()
			q.Last()
			for range q.All() {
				break
			}
			for range queue.Merge(q, nil, q) {
				break
			}
			if q.Len() != q.Copy().Len() {
				t.Error("Len:", ticket)
			}
		}
		q.Until(math.MinInt)
		q.Until(math.MaxInt)
		q.Clear()
		q.Clear()
	}
	for _, most := range []int{math.MinInt, -1, 0, 1, api.MaxQueue, api.MaxQueue + 1, math.MaxInt} {
		queue.New[string, string](most)
	}
}
