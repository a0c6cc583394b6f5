package pool_test

import (
	"iter"
	"maps"
	"slices"
	"testing"

	"herald/api"
)

// held is a place with what it had.
type held struct {
	place int
	thing string
}

// met is what an iterator goes over, at most so much of it.
func met(all iter.Seq2[int, string], most int) []held {
	var l []held
	for place, thing := range all {
		if len(l) == most {
			break
		}
		l = append(l, held{place, thing})
	}
	return l
}

// goesOver asks an iterator to go over just these.
func goesOver(t *testing.T, what string, all iter.Seq2[int, string], want ...held) {
	t.Helper()
	if got := met(all, 1<<20); !slices.Equal(got, want) {
		t.Errorf("%s: %v and not %v", what, got, want)
	}
}

// 5.3
func TestFreeAndUsed(t *testing.T) {
	for _, places := range sizes {
		p := made[int](t, places)
		for i := range places {
			if p.Free() != places-i || p.Used() != i {
				t.Fatalf("%d of %d taken: %d free, %d used", i, places, p.Free(), p.Used())
			}
			takes(t, p, 0, i)
		}
		for i := range places {
			if p.Free() != i || p.Used() != places-i {
				t.Fatalf("%d of %d given back: %d free, %d used", i, places, p.Free(), p.Used())
			}
			gives(t, p, i*7919%places, 0)
		}
		if p.Free() != places || p.Used() != 0 {
			t.Fatalf("all of %d given back: %d free, %d used", places, p.Free(), p.Used())
		}
	}
}

// 5.3: of a pool of which nothing is taken, or nothing any more, All goes over nothing.
func TestAllOfAnEmptyPool(t *testing.T) {
	p := made[string](t, 3)
	all := p.All()
	goesOver(t, "a new pool", all)
	goesOver(t, "a new pool again", all)
	takes(t, p, "a", 0)
	goesOver(t, "what was empty", all)
	gives(t, p, 0, "a")
	goesOver(t, "an emptied pool", p.All())
}

// 5.3: places rise, those given back are left out.
func TestAllRises(t *testing.T) {
	p := made[string](t, 5)
	for i, v := range []string{"a", "b", "c", "d"} {
		takes(t, p, v, i)
	}
	gives(t, p, 2, "c")
	gives(t, p, 0, "a")
	goesOver(t, "two taken", p.All(), held{1, "b"}, held{3, "d"})
	takes(t, p, "e", 0)
	goesOver(t, "three taken", p.All(), held{0, "e"}, held{1, "b"}, held{3, "d"})
	gives(t, p, 3, "d")
	goesOver(t, "the last one given back", p.All(), held{0, "e"}, held{1, "b"})
}

// 5.3: an iterator is gone over again from its beginning, left at any time, and within itself.
func TestAllAgain(t *testing.T) {
	p := made[string](t, 3)
	for i, v := range []string{"a", "b", "c"} {
		takes(t, p, v, i)
	}
	want := []held{{0, "a"}, {1, "b"}, {2, "c"}}
	all := p.All()
	for n := range 5 {
		if got := met(all, n); !slices.Equal(got, want[:min(n, 3)]) {
			t.Errorf("left behind %d: %v", n, got)
		}
		goesOver(t, "again", all, want...)
	}
	rounds := 0
	for place := range all {
		goesOver(t, "within", all, want...)
		if place != rounds {
			t.Error("within", place, rounds)
		}
		rounds++
	}
	if rounds != 3 {
		t.Error("rounds:", rounds)
	}
}

// 5.3: whoever left is not called again.
func TestAllLeft(t *testing.T) {
	p := made[string](t, 3)
	for i := range 3 {
		takes(t, p, "a", i)
	}
	for left := range 3 {
		calls := 0
		p.All()(func(int, string) bool {
			calls++
			return calls <= left
		})
		if calls != left+1 {
			t.Errorf("left at call %d: %d calls", left+1, calls)
		}
	}
}

// 5.3: what is taken, given and set while All is gone over is not seen by it, and is done.
func TestAllWithChangesMeanwhile(t *testing.T) {
	p := made[string](t, 5)
	for i, v := range []string{"a", "b", "c"} {
		takes(t, p, v, i)
	}
	all := p.All()
	want := []held{{0, "a"}, {1, "b"}, {2, "c"}}
	var got []held
	for place, v := range all {
		got = append(got, held{place, v})
		if place == 0 {
			gives(t, p, 1, "b")
			takes(t, p, "x", 1)
			takes(t, p, "y", 3)
			gives(t, p, 0, "a")
			if e := p.Set(2, "z"); e != api.OK {
				t.Error("Set:", e)
			}
		}
	}
	if !slices.Equal(got, want) {
		t.Errorf("with changes meanwhile: %v", got)
	}
	goesOver(t, "behind the changes", all, want...)
	is(t, p, 5, map[int]string{1: "x", 2: "z", 3: "y"})
}

// 5.3: it tells what was when All was called, not when it is gone over; each All its own.
func TestAllIsOfItsTime(t *testing.T) {
	p := made[string](t, 2)
	first := p.All()
	takes(t, p, "a", 0)
	second := p.All()
	if e := p.Set(0, "b"); e != api.OK {
		t.Error("Set:", e)
	}
	third := p.All()
	takes(t, p, "c", 1)
	gives(t, p, 0, "b")
	fourth := p.All()
	gives(t, p, 1, "c")
	for range 2 {
		goesOver(t, "first", first)
		goesOver(t, "second", second, held{0, "a"})
		goesOver(t, "third", third, held{0, "b"})
		goesOver(t, "fourth", fourth, held{1, "c"})
	}
}

// 5.3: while all is given back within, all is still gone over.
func TestAllGivenBackMeanwhile(t *testing.T) {
	for _, places := range sizes {
		p := filled(t, places, 1)
		next := 0
		for place, v := range p.All() {
			if place != next || v != place+1 {
				t.Fatalf("%d places: %d, %d and not %d", places, place, v, next)
			}
			gives(t, p, places-1-place, places-place)
			next++
		}
		if next != places || p.Used() != 0 {
			t.Errorf("%d places: %d gone over, %d used", places, next, p.Used())
		}
	}
}

// 5.3, R5: going over has no part in what calls answer.
func TestAllChangesNothing(t *testing.T) {
	p, want := filled(t, 70, 0), map[int]int{}
	for i := range 70 {
		want[i] = i
	}
	for _, place := range []int{66, 5, 64} {
		gives(t, p, place, place)
		delete(want, place)
	}
	for range 3 {
		if got := maps.Collect(p.All()); !maps.Equal(got, want) {
			t.Error(got)
		}
		for range p.All() {
			break
		}
	}
	for _, place := range []int{5, 64, 66} {
		takes(t, p, 0, place)
	}
}
