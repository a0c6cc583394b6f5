package queue

import (
	"testing"

	"herald/api"
)

// inLine is all elements that a queue's list keeps, its spare room too.
func inLine[V any](q *Queue[int, V]) []*element[int, V] {
	var all []*element[int, V]
	for _, run := range q.line.runs[:cap(q.line.runs)] {
		for _, e := range run[:cap(run)] {
			if e != nil {
				all = append(all, e)
			}
		}
	}
	return all
}

// LANGUAGE 8: what was taken out is not kept, in whichever way it was, nor what was refused.
func TestNothingIsKept(t *testing.T) {
	const most = 3000
	for name, out := range map[string]func(q *Queue[int, int], i int){
		"Pop":     func(q *Queue[int, int], i int) { q.Pop() },
		"PopLast": func(q *Queue[int, int], i int) { q.PopLast() },
		"Remove":  func(q *Queue[int, int], i int) { q.Remove(i * 1009 % most) },
		"Until":   func(q *Queue[int, int], i int) { q.Until(i) },
		"Clear":   func(q *Queue[int, int], i int) { q.Clear() },
	} {
		q, _ := New[int, int](most)
		for i := range most {
			q.Put(i*1009%most, i)
		}
		q.Put(0, 0)
		for i := range most {
			out(q, i)
			kept := inLine(q)
			if len(kept) != q.Len() || len(q.byTicket) != q.Len() {
				t.Fatalf("%s %d: %d kept, %d by their tickets, of %d", name, i, len(kept), len(q.byTicket), q.Len())
			}
		}
		if q.Len() != 0 || len(q.line.runs) != 0 {
			t.Errorf("%s: %d, %d runs are left", name, q.Len(), len(q.line.runs))
		}
	}
}

// The list is sorted and has neither empty nor long runs, and the map has just its elements.
func TestRuns(t *testing.T) {
	q, _ := New[int, int](5000)
	for step := range 20000 {
		n := step * 40503
		switch n / 7 % 5 {
		case 0:
			q.Pop()
		case 1:
			q.Remove(n % (step + 1))
		case 2:
			q.Change(n%(step+1), n%300)
		default:
			q.Put(n%1000, step)
		}
		if step%500 != 0 {
			continue
		}
		var last *element[int, int]
		for _, run := range q.line.runs {
			if len(run) == 0 || len(run) > mostOfARun {
				t.Fatalf("step %d: a run of %d", step, len(run))
			}
			for _, e := range run {
				if last != nil && order(last, e) >= 0 || q.byTicket[e.ticket] != e {
					t.Fatalf("step %d: %v behind %v", step, e, last)
				}
				last = e
			}
		}
	}
	if q.Len() < 2*mostOfARun {
		t.Error("too few to tell:", q.Len())
	}
}

// 6.6, R4: a copy shares no memory with its queue.
func TestCopyIsNewMemory(t *testing.T) {
	q, _ := New[int, int](2000)
	for i := range 2000 {
		q.Put(i%7, i)
	}
	c, mine := q.Copy(), map[*element[int, int]]int{}
	for _, e := range inLine(q) {
		mine[e]++
	}
	for _, e := range inLine(c) {
		if mine[e] > 0 {
			t.Fatal("shared:", e)
		}
	}
	for ticket, e := range c.byTicket {
		if mine[e] > 0 || q.byTicket[ticket] == e {
			t.Fatal("shared:", e)
		}
	}
}

// 6.1: a queue needs memory for what is in it, not for all that may be.
func TestRoomIsMadeWhereItIsNeeded(t *testing.T) {
	q, _ := New[int, int](api.MaxQueue)
	for i := range 5000 {
		q.Put(i, i)
		q.Put(-i, i)
		q.PopLast()
		q.Pop()
	}
	if room := cap(q.line.runs); room > 10 || len(inLine(q)) != 0 {
		t.Errorf("two elements at one time need room for %d runs", room)
	}
}
