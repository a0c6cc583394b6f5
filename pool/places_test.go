package pool_test

import (
	"testing"

	"herald/api"
	"herald/pool"
)

// 5.2: the least free place, whatever the order in which places were given back.
func TestTakeTakesTheLeast(t *testing.T) {
	for name, order := range map[string]func(i, places int) int{
		"rising":       func(i, places int) int { return i },
		"falling":      func(i, places int) int { return places - 1 - i },
		"far apart":    func(i, places int) int { return i * 7919 % places },
		"from between": func(i, places int) int { return (i + places/2) % places },
	} {
		for _, places := range sizes {
			p := filled(t, places, 0)
			if places%7919 == 0 {
				t.Fatal("far apart needs places that 7919 does not divide")
			}
			for i := range places {
				gives(t, p, order(i, places), order(i, places))
			}
			is(t, p, places, nil)
			for i := range places {
				if place, e := p.Take(-i); place != i || e != api.OK {
					t.Fatalf("%s, %d places: Take: %d, %d and not %d", name, places, place, e, i)
				}
			}
		}
	}
}

// 5.2: a place that is given back is taken next, if it is the least free one, and else in its turn.
func TestTakeOfEachPlace(t *testing.T) {
	for _, places := range sizes {
		p := filled(t, places, 0)
		for i := range places {
			other := places - 1 - i
			gives(t, p, i, i)
			if other != i {
				gives(t, p, other, other)
			}
			takes(t, p, min(i, other), min(i, other))
			if other != i {
				takes(t, p, max(i, other), max(i, other))
			}
			if place, e := p.Take(0); place != -1 || e != api.ErrNone {
				t.Fatalf("Take of a full pool of %d: %d, %d", places, place, e)
			}
		}
	}
}

// 5.2: a place that was never taken is behind one that was given back.
func TestTakeOfNewPlaces(t *testing.T) {
	p := made[int](t, 200)
	for i := range 130 {
		takes(t, p, i, i)
	}
	for _, place := range []int{129, 3, 64} {
		gives(t, p, place, place)
	}
	for i, place := range []int{3, 64, 129, 130, 131} {
		takes(t, p, 1000+i, place)
	}
	gives(t, p, 131, 1004)
	takes(t, p, 7, 131)
	takes(t, p, 7, 132)
}

// 5.2, 5.3: takes, gives and sets in no order, held against the promise's words.
func TestCallsInNoOrder(t *testing.T) {
	for i, places := range sizes {
		for _, tilt := range []int{25, 45, 60} { // of a hundred calls, how many take
			noOrder(t, places, tilt, spread(i))
		}
	}
}

func noOrder(t *testing.T, places, tilt int, s spread) {
	t.Helper()
	p, want := made[int](t, places), map[int]int{}
	for step := range 600 + places {
		place, v := s.below(places+2)-1, s.below(1000)
		had, taken := want[place]
		switch call := s.below(100); {
		case step < places || call < tilt:
			least := leastFree(places, want)
			e := api.OK
			if least < 0 {
				e = api.ErrNone
			} else {
				want[least] = v
			}
			if got, f := p.Take(v); got != least || f != e {
				t.Fatalf("Take: %d, %d and not %d, %d", got, f, least, e)
			}
		case !taken:
			isFree(t, p, place, v)
		case call < 90:
			gives(t, p, place, had)
			delete(want, place)
		default:
			want[place] = v
			if e := p.Set(place, v); e != api.OK {
				t.Fatalf("Set(%d): %d", place, e)
			}
		}
		if step%37 == 0 {
			is(t, p, places, want)
		}
	}
	is(t, p, places, want)
}

// 5.2, R2: a full pool takes nothing, and what it has stays.
func TestTakeOfAFullPool(t *testing.T) {
	for _, places := range append(sizes, api.MaxPlaces) {
		p, want := filled(t, places, 5), map[int]int{}
		for i := range places {
			want[i] = i + 5
		}
		for range 3 {
			if place, e := p.Take(0); place != -1 || e != api.ErrNone {
				t.Fatalf("%d places: Take: %d, %d", places, place, e)
			}
		}
		is(t, p, places, want)
		gives(t, p, places-1, places+4)
		takes(t, p, 1, places-1)
	}
}

// 5.2, R2: what is no place, and what is free, is refused by each call, and nothing is changed.
func TestPlacesThatAreNotTaken(t *testing.T) {
	for _, places := range sizes {
		p, want := made[int](t, places), map[int]int{}
		wrong := noPlaces(places)
		for i := range places / 2 {
			takes(t, p, i+1, i)
			want[i] = i + 1
		}
		for i := 0; i < places/2; i += 3 {
			gives(t, p, i, i+1)
			delete(want, i)
			wrong = append(wrong, i) // given back
		}
		for i := places / 2; i < places; i++ {
			wrong = append(wrong, i) // never taken
		}
		for _, place := range wrong {
			isFree(t, p, place, 9)
		}
		is(t, p, places, want)
		for range places - len(want) {
			least := leastFree(places, want)
			takes(t, p, 8, least)
			want[least] = 8
		}
		is(t, p, places, want)
	}
}

// 5.2: a place is given back once; taken anew, it has nothing of what it had.
func TestGiveTwice(t *testing.T) {
	p := made[string](t, 3)
	takes(t, p, "a", 0)
	takes(t, p, "b", 1)
	gives(t, p, 1, "b")
	isFree(t, p, 1, "x")
	if p.Free() != 2 || p.Used() != 1 {
		t.Error(p.Free(), p.Used())
	}
	takes(t, p, "", 1)
	if v, ok := p.Get(1); v != "" || !ok {
		t.Errorf("Get(1): %q, %v", v, ok)
	}
	gives(t, p, 1, "")
	isFree(t, p, 1, "x")
}

// 5.2: Set changes one place, and which places are taken stays.
func TestSet(t *testing.T) {
	p := made[string](t, 4)
	for i, v := range []string{"a", "b", "c"} {
		takes(t, p, v, i)
	}
	for _, v := range []string{"x", "", "y"} {
		if e := p.Set(1, v); e != api.OK {
			t.Error("Set:", e)
		}
		is(t, p, 4, map[int]string{0: "a", 1: v, 2: "c"})
	}
	gives(t, p, 1, "y")
	is(t, p, 4, map[int]string{0: "a", 2: "c"})
	takes(t, p, "d", 1)
	takes(t, p, "e", 3)
	is(t, p, 4, map[int]string{0: "a", 1: "d", 2: "c", 3: "e"})
}

// pair is a thing of several parts.
type pair struct {
	name string
	list [3]int
}

// keeps asks a pool to keep things, tell them, and let them be replaced; beside an error stands the zero value.
func keeps[T comparable](t *testing.T, a, b T) {
	t.Helper()
	p := made[T](t, 2)
	takes(t, p, a, 0)
	takes(t, p, b, 1)
	is(t, p, 2, map[int]T{0: a, 1: b})
	if place, e := p.Take(a); place != -1 || e != api.ErrNone {
		t.Errorf("Take of a full pool: %d, %d", place, e)
	}
	gives(t, p, 0, a)
	for _, place := range []int{-1, 0, 2} {
		isFree(t, p, place, a)
	}
	if e := p.Set(1, a); e != api.OK {
		t.Error("Set:", e)
	}
	is(t, p, 2, map[int]T{1: a})
}

// 5.2: things of any type.
func TestThingsOfAllTypes(t *testing.T) {
	n, m := 1, 2
	keeps(t, 1, -1)
	keeps(t, "a", "")
	keeps(t, true, false)
	keeps(t, 1.5, -2)
	keeps(t, pair{"a", [3]int{1, 2, 3}}, pair{"b", [3]int{4}})
	keeps(t, [2]string{"a", "b"}, [2]string{"", "c"})
	keeps(t, &n, &m)
	keeps(t, &n, nil)
	keeps[any](t, "a", nil)
	keeps[any](t, 1, 1.5)
	keeps[error](t, nil, nil)
	keeps(t, struct{}{}, struct{}{})
	keeps(t, made[int](t, 1), made[int](t, 2))
	keeps(t, make(chan int), nil)
}

// 5.2: things that cannot be held against each other.
func TestThingsThatAreLists(t *testing.T) {
	p := made[[]int](t, 2)
	takes(t, p, []int{1, 2}, 0)
	takes(t, p, nil, 1)
	if v, ok := p.Get(0); !ok || len(v) != 2 || v[1] != 2 {
		t.Error(v, ok)
	}
	if v, ok := p.Get(1); !ok || v != nil {
		t.Error(v, ok)
	}
	if v, e := p.Give(0); e != api.OK || len(v) != 2 || v[0] != 1 {
		t.Error(v, e)
	}
	if v, e := p.Give(0); e != api.ErrFree || v != nil {
		t.Error(v, e)
	}
	f := made[func(int) int](t, 1)
	takes(t, f, func(n int) int { return n + 1 }, 0)
	if v, ok := f.Get(0); !ok || v(4) != 5 {
		t.Error("a function:", ok)
	}
	if v, ok := f.Get(1); ok || v != nil {
		t.Error("no function:", ok)
	}
	m := made[map[string]int](t, 1)
	takes(t, m, map[string]int{"a": 3}, 0)
	if v, e := m.Give(0); e != api.OK || v["a"] != 3 {
		t.Error(v, e)
	}
}

// R4: a thing that is a value is kept as it was, whatever the caller does with his own, and what is handed out is no way in.
func TestThingsAreCopied(t *testing.T) {
	p := made[pair](t, 1)
	v := pair{"a", [3]int{1, 2, 3}}
	takes(t, p, v, 0)
	v.list[0] = 9
	got, _ := p.Get(0)
	got.list[1] = 9
	for _, had := range p.All() {
		had.list[2] = 9
	}
	is(t, p, 1, map[int]pair{0: {"a", [3]int{1, 2, 3}}})
}

// The chapter's example.
func TestExample(t *testing.T) {
	p := made[string](t, 2)
	takes(t, p, "a", 0)
	takes(t, p, "b", 1)
	if place, e := p.Take("c"); place != -1 || e != api.ErrNone {
		t.Error("Take(c):", place, e)
	}
	gives(t, p, 0, "a")
	takes(t, p, "d", 0)
	if v, ok := p.Get(1); v != "b" || !ok {
		t.Error("Get(1):", v, ok)
	}
	isFree(t, p, 7, "x")
	if q, e := pool.New[string](0); q != nil || e != api.ErrArg {
		t.Error("New(0):", q, e)
	}
}
