package pool

import (
	"testing"

	"herald/api"
)

// LANGUAGE 8: what was given back, or replaced, is not kept; nor is anything that was refused.
func TestNothingIsKept(t *testing.T) {
	p, e := New[*int](2)
	if e != api.OK {
		t.Fatal(e)
	}
	a, b, c := new(int), new(int), new(int)
	keeps := func(what string, want ...*int) {
		t.Helper()
		all := p.things[:cap(p.things)]
		for i, v := range all {
			if i < len(want) && v != want[i] || i >= len(want) && v != nil {
				t.Errorf("%s: place %d keeps %p", what, i, v)
			}
		}
		if len(all) < len(want) {
			t.Errorf("%s: %d places", what, len(all))
		}
	}
	p.Take(a)
	p.Take(b)
	keeps("taken", a, b)
	p.Take(c)
	p.Set(2, c)
	keeps("refused", a, b)
	p.Set(1, c)
	keeps("set", a, c)
	p.Give(0)
	keeps("given", nil, c)
	p.Set(0, b)
	keeps("set when given", nil, c)
	p.Give(1)
	keeps("all given", nil, nil)
}

// 5.1: a pool needs memory for the places that were taken at one time, not for all that it may have.
func TestRoomIsMadeWhereItIsNeeded(t *testing.T) {
	p, _ := New[int](api.MaxPlaces)
	for i := range 1000 {
		p.Take(i)
		p.Take(i)
		p.Give(0)
		p.Give(1)
	}
	if cap(p.things) > 100 || cap(p.back.words) > 100 {
		t.Errorf("two places at one time need room for %d and %d", cap(p.things), cap(p.back.words))
	}
}
