package pool_test

import (
	"math"
	"testing"

	"herald/api"
	"herald/pool"
)

// sizes is the pools' sizes that tests go over: the least ones, those about whole words of 64 places, and some more.
var sizes = []int{1, 2, 3, 63, 64, 65, 127, 128, 129, 200, 1000}

// made is a pool of so many places.
func made[T any](t *testing.T, places int) *pool.Pool[T] {
	t.Helper()
	p, e := pool.New[T](places)
	if p == nil || e != api.OK {
		t.Fatalf("New(%d): %v, %d", places, p, e)
	}
	return p
}

// filled is a pool all of whose places are taken, each by its number and an offset.
func filled(t *testing.T, places, offset int) *pool.Pool[int] {
	t.Helper()
	p := made[int](t, places)
	for i := range places {
		takes(t, p, i+offset, i)
	}
	return p
}

// takes asks Take to take a place.
func takes[T any](t *testing.T, p *pool.Pool[T], v T, place int) {
	t.Helper()
	if got, e := p.Take(v); got != place || e != api.OK {
		t.Fatalf("Take(%v): %d, %d and not %d", v, got, e, place)
	}
}

// gives asks Give to give a place back, and what it had.
func gives[T comparable](t *testing.T, p *pool.Pool[T], place int, v T) {
	t.Helper()
	if got, e := p.Give(place); got != v || e != api.OK {
		t.Fatalf("Give(%d): %v, %d and not %v", place, got, e, v)
	}
}

// is asks a pool for the things at its places, by all calls that tell them; want has nothing of a free place.
func is[T comparable](t *testing.T, p *pool.Pool[T], places int, want map[int]T) {
	t.Helper()
	if used, free := p.Used(), p.Free(); used != len(want) || free != places-len(want) {
		t.Fatalf("of %d places %d are used and %d free; %d are taken", places, used, free, len(want))
	}
	for place := range places {
		v, taken := want[place] // the zero value, if it is free
		if got, ok := p.Get(place); got != v || ok != taken {
			t.Fatalf("Get(%d): %v, %v and not %v, %v", place, got, ok, v, taken)
		}
	}
	last, met := -1, 0
	for place, got := range p.All() {
		v, taken := want[place]
		if place <= last || !taken || got != v {
			t.Fatalf("All: %d behind %d, with %v and not %v, %v", place, last, got, v, taken)
		}
		last, met = place, met+1
	}
	if met != len(want) {
		t.Fatalf("All: %d places, and not %d", met, len(want))
	}
}

// leastFree is the least free place; -1, if there is none.
func leastFree[T any](places int, taken map[int]T) int {
	for place := range places {
		if _, ok := taken[place]; !ok {
			return place
		}
	}
	return -1
}

// noPlaces is numbers that are no places of a pool.
func noPlaces(places int) []int {
	return []int{math.MinInt, math.MinInt + 1, -1 << 32, -65, -64, -63, -2, -1, places, places + 1, places + 63, places + 64, api.MaxPlaces, api.MaxPlaces + 1, 1 << 32, math.MaxInt - 1, math.MaxInt}
}

// isFree asks a place to be none that is taken, by each call.
func isFree[T comparable](t *testing.T, p *pool.Pool[T], place int, v T) {
	t.Helper()
	var zero T
	if got, ok := p.Get(place); got != zero || ok {
		t.Errorf("Get(%d): %v, %v", place, got, ok)
	}
	if got, e := p.Give(place); got != zero || e != api.ErrFree {
		t.Errorf("Give(%d): %v, %d", place, got, e)
	}
	if e := p.Set(place, v); e != api.ErrFree {
		t.Errorf("Set(%d): %d", place, e)
	}
}

// spread is numbers from 0 to less than a bound, in no order that the eye could tell, always the same ones.
type spread uint64

func (s *spread) below(bound int) int {
	*s = *s*6364136223846793005 + 1442695040888963407
	return int(*s>>33) % bound
}
