package pool_test

import (
	"math"
	"testing"

	"herald/api"
	"herald/pool"
)

// 5.5: Free and Used sum to the places, whatever is asked, and places taken at one time are unlike.
func TestSumAndUnlike(t *testing.T) {
	for i, places := range sizes {
		p := made[int](t, places)
		s, have := spread(100+i), map[int]int{}
		for step := range 500 + 2*places {
			place := s.below(places+4) - 2
			switch s.below(4) {
			case 0, 1:
				if got, e := p.Take(step); e == api.OK {
					if _, taken := have[got]; taken || got < 0 || got >= places {
						t.Fatalf("of %d places %d is taken a second time, or is none", places, got)
					}
					have[got] = step
				}
			case 2:
				if _, e := p.Give(place); e == api.OK {
					delete(have, place)
				}
			default:
				p.Set(place, step)
			}
			if p.Free()+p.Used() != places || p.Used() != len(have) {
				t.Fatalf("of %d places %d are free, %d used, %d had", places, p.Free(), p.Used(), len(have))
			}
		}
	}
}

// 5.5: pools whose free places are the same take the same places, whatever was done ahead.
func TestWhatWasDoneAhead(t *testing.T) {
	const places = 130
	free := []int{0, 1, 5, 63, 64, 100, 127, 128, 129}
	straight := filled(t, places, 0)
	for _, place := range free {
		gives(t, straight, place, place)
	}
	back := filled(t, places, 0)
	for i := range free {
		place := free[len(free)-1-i]
		gives(t, back, place, place)
	}
	around := filled(t, places, 0)
	for place := places - 1; place >= 0; place-- {
		gives(t, around, place, place)
	}
	for range around.All() {
	}
	for i := range places {
		takes(t, around, i, i)
		around.Set(i, -i)
		around.Give(places)
	}
	around.Take(0)
	for _, place := range []int{64, 0, 129, 5, 1, 127, 63, 128, 100} {
		gives(t, around, place, -place)
	}
	for _, place := range free {
		takes(t, straight, 1, place)
		takes(t, back, 1, place)
		takes(t, around, 1, place)
	}
}

// R5: two pools, asked in turns, have no part in one another; each is as if it were alone.
func TestTwoPools(t *testing.T) {
	a, b := made[string](t, 3), made[string](t, 3)
	takes(t, a, "a0", 0)
	takes(t, b, "b0", 0)
	takes(t, a, "a1", 1)
	ofA := a.All()
	takes(t, b, "b1", 1)
	gives(t, a, 0, "a0")
	takes(t, b, "b2", 2)
	if place, e := b.Take("x"); place != -1 || e != api.ErrNone {
		t.Error("Take:", place, e)
	}
	is(t, a, 3, map[int]string{1: "a1"})
	is(t, b, 3, map[int]string{0: "b0", 1: "b1", 2: "b2"})
	if e := a.Set(1, "a3"); e != api.OK {
		t.Error("Set:", e)
	}
	isFree(t, a, 2, "x")
	gives(t, b, 1, "b1")
	takes(t, a, "a4", 0)
	takes(t, b, "b3", 1)
	is(t, a, 3, map[int]string{0: "a4", 1: "a3"})
	is(t, b, 3, map[int]string{0: "b0", 1: "b3", 2: "b2"})
	goesOver(t, "of the one", ofA, held{0, "a0"}, held{1, "a1"})
}

// R5: the same calls on several pools of unlike sizes and types answer the same, alone and in turns.
func TestManyPoolsInTurns(t *testing.T) {
	const steps = 400
	alone := func(places int, s spread) []int {
		p := made[int](t, places)
		var answers []int
		for step := range steps {
			answers = append(answers, oneCall(p, places, step, &s)...)
		}
		return answers
	}
	var pools []*pool.Pool[int]
	for _, places := range sizes {
		pools = append(pools, made[int](t, places))
	}
	got, s := make([][]int, len(sizes)), make([]spread, len(sizes))
	for step := range steps {
		for i, p := range pools {
			got[i] = append(got[i], oneCall(p, sizes[i], step, &s[i])...)
		}
	}
	for i, places := range sizes {
		for j, want := range alone(places, 0) {
			if got[i][j] != want {
				t.Fatalf("%d places, answer %d: %d in turns, %d alone", places, j, got[i][j], want)
			}
		}
	}
}

// oneCall is what one of the calls answers, which one the numbers tell.
func oneCall(p *pool.Pool[int], places, step int, s *spread) []int {
	place := s.below(places)
	switch s.below(5) {
	case 0:
		v, e := p.Give(place)
		return []int{v, int(e), p.Used()}
	case 1:
		return []int{int(p.Set(place, step)), p.Free(), 0}
	case 2:
		v, _ := p.Get(place)
		return []int{v, p.Free(), 0}
	default:
		got, e := p.Take(step)
		return []int{got, int(e), p.Used()}
	}
}

// R1: no call panics at any place, on a new pool, a full one, one of which some is given back, and a Pool that no call gave.
func TestNothingPanics(t *testing.T) {
	some := filled(t, 70, 0)
	for _, place := range []int{69, 0, 64} {
		gives(t, some, place, place)
	}
	for _, p := range []*pool.Pool[int]{nil, {}, made[int](t, 70), filled(t, 70, 0), some, made[int](t, api.MaxPlaces)} {
		for _, place := range append(noPlaces(70), 0, 1, 63, 64, 69) {
			p.Get(place)
			p.Set(place, 1)
			p.Give(place)
			p.Give(place)
			p.Take(place)
			for range p.All() {
				break
			}
			if p.Free() < 0 || p.Used() < 0 {
				t.Error(place, p.Free(), p.Used())
			}
		}
	}
	for _, places := range []int{math.MinInt, -1, 0, 1, api.MaxPlaces, api.MaxPlaces + 1, math.MaxInt} {
		pool.New[string](places)
	}
}
