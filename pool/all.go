package pool

import "iter"

// held is a taken place with what it has.
type held[T any] struct {
	place int
	thing T
}

// All goes over the taken places.
func (p *Pool[T]) All() iter.Seq2[int, T] {
	all := p.held() // here, not in the closure: what changes from now on is not to be seen
	return func(yield func(int, T) bool) {
		for _, h := range all {
			if !yield(h.place, h.thing) {
				return
			}
		}
	}
}

// held is all taken places by rising numbers.
func (p *Pool[T]) held() []held[T] {
	if p == nil {
		return nil
	}
	all := make([]held[T], 0, p.Used())
	for place, v := range p.things {
		if !p.back.has(place) {
			all = append(all, held[T]{place, v})
		}
	}
	return all
}
