package pool_test

import (
	"math"
	"testing"

	"herald/api"
	"herald/pool"
)

// 5.1
func TestNewRefuses(t *testing.T) {
	for _, places := range []int{math.MinInt, -1 << 32, -api.MaxPlaces, -2, -1, 0, api.MaxPlaces + 1, 2 * api.MaxPlaces, 1 << 32, 1<<32 + 1, math.MaxInt} {
		if p, e := pool.New[int](places); p != nil || e != api.ErrArg {
			t.Errorf("New(%d): %v, %d", places, p, e)
		}
		if p, e := pool.New[struct{}](places); p != nil || e != api.ErrArg {
			t.Errorf("New(%d) of things without size: %v, %d", places, p, e)
		}
	}
}

// 5.1: all places are free, and they are just those from 0 on.
func TestNewIsFree(t *testing.T) {
	for _, places := range append(sizes, api.MaxPlaces-1, api.MaxPlaces) {
		p := made[int](t, places)
		is(t, p, places, nil)
		for _, place := range []int{0, 1, places / 2, places - 1} {
			isFree(t, p, place, 7)
		}
		for _, place := range noPlaces(places) {
			isFree(t, p, place, 7)
		}
		is(t, p, places, nil)
		want := map[int]int{}
		for i := range places {
			takes(t, p, 3*i+1, i)
			want[i] = 3*i + 1
		}
		is(t, p, places, want)
		if place, e := p.Take(5); place != -1 || e != api.ErrNone {
			t.Errorf("Take of a full pool of %d: %d, %d", places, place, e)
		}
	}
}

// 5.1: a pool of great things is made as quickly as another; its places need no memory till they are taken.
func TestNewOfGreatThings(t *testing.T) {
	p := made[[1 << 20]byte](t, api.MaxPlaces)
	if p.Free() != api.MaxPlaces {
		t.Error(p.Free())
	}
	v := [1 << 20]byte{1<<20 - 1: 9}
	takes(t, p, v, 0)
	v[0] = 1
	takes(t, p, v, 1)
	v[0] = 0
	gives(t, p, 0, v)
}
