package queue_test

import (
	"slices"
	"testing"

	"herald/queue"
)

// 6.7: of no queue, of nil ones, of empty ones.
func TestMergeOfNothing(t *testing.T) {
	empty := made[int, string](t, 2)
	for _, queues := range [][]*queue.Queue[int, string]{nil, {}, {nil}, {nil, nil, nil}, {empty}, {empty, empty}, {nil, empty, nil}} {
		all := queue.Merge(queues...)
		goesOver(t, "Merge", all)
		goesOver(t, "Merge again", all)
	}
}

// 6.7: of equal keys those of the queue that is handed in earlier are ahead, whatever came when.
func TestMergeOfEqualKeys(t *testing.T) {
	a, b, c := made[int, string](t, 9), made[int, string](t, 9), made[int, string](t, 9)
	puts(t, c, 1, "c0", 0)
	puts(t, b, 2, "b0", 0)
	puts(t, a, 2, "a0", 0)
	puts(t, a, 1, "a1", 1)
	puts(t, b, 1, "b1", 1)
	puts(t, c, 2, "c1", 1)
	puts(t, a, 2, "a2", 2)
	a.Change(0, 2)
	for _, m := range []struct {
		queues []*queue.Queue[int, string]
		want   []string
	}{
		{[]*queue.Queue[int, string]{a, b, c}, []string{"a1", "b1", "c0", "a2", "a0", "b0", "c1"}},
		{[]*queue.Queue[int, string]{c, b, a}, []string{"c0", "b1", "a1", "c1", "b0", "a2", "a0"}},
		{[]*queue.Queue[int, string]{nil, b, nil, a, c, nil}, []string{"b1", "a1", "c0", "b0", "a2", "a0", "c1"}},
		{[]*queue.Queue[int, string]{a, a}, []string{"a1", "a1", "a2", "a0", "a2", "a0"}},
		{[]*queue.Queue[int, string]{b, a, b}, []string{"b1", "a1", "b1", "b0", "a2", "a0", "b0"}},
	} {
		var got []string
		for _, v := range queue.Merge(m.queues...) {
			got = append(got, v)
		}
		if !slices.Equal(got, m.want) {
			t.Errorf("%v and not %v", got, m.want)
		}
	}
}

// 6.7: it may be left, gone over again, and nested.
func TestMergeAgain(t *testing.T) {
	a, b := filled(t, 3, 1), filled(t, 2, 3, 2)
	again(t, queue.Merge(a, b), of{key: 1, value: "b"}, of{key: 2, value: "a"}, of{key: 2, value: "c"}, of{key: 3, value: "a"}, of{key: 3, value: "b"})
}

// 6.7: what is done to the queues, and to the list of them, behind the call has no part in it.
func TestMergeWithCallsMeanwhile(t *testing.T) {
	a, b := filled(t, 1, 3, 5), filled(t, 2, 3, 4)
	want := []of{{key: 1, value: "a"}, {key: 2, value: "a"}, {key: 3, value: "b"}, {key: 3, value: "b"}, {key: 4, value: "c"}, {key: 5, value: "c"}}
	queues := []*queue.Queue[int, string]{a, b, nil}
	all := queue.Merge(queues[:2]...)
	if queues[0] != a || queues[1] != b || queues[2] != nil {
		t.Error("the list of queues was changed")
	}
	queues[0], queues[1] = nil, a
	a.Change(0, 9)
	var got []of
	for k, v := range all {
		got = append(got, of{key: k, value: v})
		switch k {
		case 1:
			b.Clear()
			a.Remove(2)
		case 2:
			puts(t, b, 3, "x", 3)
			a.Pop()
		case 4:
			a.PopLast()
		}
	}
	if !slices.Equal(got, want) {
		t.Error("with calls meanwhile:", got)
	}
	goesOver(t, "behind the calls", all, want...)
	is(t, a)
	is(t, b, of{3, "x", 3})
}

// 6.7, R5: it takes nothing out.
func TestMergeChangesNothing(t *testing.T) {
	a, b := filled(t, 2, 1), filled(t, 1, 2)
	for range queue.Merge(a, b, a) {
	}
	for range queue.Merge(b, a) {
		break
	}
	is(t, a, of{1, "b", 1}, of{2, "a", 0})
	is(t, b, of{1, "a", 0}, of{2, "b", 1})
}

// 6.8: Merge of one queue is its All.
func TestMergeOfOne(t *testing.T) {
	s := spread(5)
	for _, most := range sizes {
		q := numbered(t, most, func(int) int { return s.below(1 + most/3) })
		want := met(q.All(), most)
		for _, queues := range [][]*queue.Queue[int, int]{{q}, {nil, q}, {q, nil}, {nil, nil, q, nil, nil}} {
			if got := met(queue.Merge(queues...), most+1); !slices.Equal(got, want) {
				t.Errorf("of %d: %v and not %v", most, got, want)
			}
		}
	}
}

// 6.7, 6.8: of any number of queues: all of their elements, sorted by their keys alone, as they stand when the queues are told one behind the other.
func TestMergeOfMany(t *testing.T) {
	s := spread(8)
	for _, number := range []int{2, 3, 4, 5, 7, 8, 9, 31, 100} {
		var queues []*queue.Queue[int, int]
		for len(queues) < number {
			q := numbered(t, 1+s.below(700/number+2), func(int) int { return s.below(20) })
			switch s.below(8) {
			case 0:
				q = nil
			case 1:
				if len(queues) > 0 {
					q = queues[s.below(len(queues))]
				}
			}
			queues = append(queues, q)
		}
		var want []kept[int, int]
		for i, q := range queues {
			for _, e := range met(q.All(), 1<<20) {
				e.ticket = i
				want = append(want, e)
			}
		}
		slices.SortStableFunc(want, func(a, b kept[int, int]) int { return a.key - b.key })
		goesOver(t, "Merge", queue.Merge(queues...), want...)
	}
}
