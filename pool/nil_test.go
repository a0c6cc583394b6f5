package pool_test

import (
	"math"
	"testing"

	"herald/api"
	"herald/pool"
)

// onNil asks a nil Pool by each call; v is no zero value.
func onNil[T comparable](t *testing.T, v T) {
	t.Helper()
	var p *pool.Pool[T]
	for range 2 {
		if place, e := p.Take(v); place != -1 || e != api.ErrNone {
			t.Error("Take:", place, e)
		}
		for _, place := range append(noPlaces(1), 0) {
			isFree(t, p, place, v)
		}
		if p.Free() != 0 || p.Used() != 0 {
			t.Error("Free, Used:", p.Free(), p.Used())
		}
		all := p.All()
		for range 2 {
			for place, v := range all {
				t.Error("All:", place, v)
			}
		}
	}
}

// 5.4
func TestNilPool(t *testing.T) {
	onNil(t, 7)
	onNil(t, "a")
	onNil(t, true)
	onNil(t, pair{name: "a"})
	onNil[any](t, 1)
	onNil(t, struct{}{})
}

// 5.1, 5.4: what New answers beside an error is such a pool.
func TestPoolOfAWrongSize(t *testing.T) {
	for _, places := range []int{math.MinInt, 0, math.MaxInt} {
		p, _ := pool.New[string](places)
		if place, e := p.Take("a"); place != -1 || e != api.ErrNone {
			t.Error("Take:", place, e)
		}
		isFree(t, p, 0, "a")
		goesOver(t, "a wrong size", p.All())
	}
}
