package queue

import (
	"cmp"
	"iter"
)

// pair is a key with its value.
type pair[K cmp.Ordered, V any] struct {
	key   K
	value V
}

// All goes over the elements in their order.
func (q *Queue[K, V]) All() iter.Seq2[K, V] { return over(q.pairs()) }

// Merge goes over the elements of several queues, the least key first.
func Merge[K cmp.Ordered, V any](queues ...*Queue[K, V]) iter.Seq2[K, V] {
	return over(merged(queues))
}

// over goes over pairs. They are of the time of the call that made them: what changes from then on is not to be seen.
func over[K cmp.Ordered, V any](pairs []pair[K, V]) iter.Seq2[K, V] {
	return func(yield func(K, V) bool) {
		for _, p := range pairs {
			if !yield(p.key, p.value) {
				return
			}
		}
	}
}

// pairs is what a queue has now, in its order.
func (q *Queue[K, V]) pairs() []pair[K, V] {
	if q == nil {
		return nil
	}
	all := make([]pair[K, V], 0, q.Len())
	for _, run := range q.line.runs {
		for _, e := range run {
			all = append(all, pair[K, V]{e.key, e.value})
		}
	}
	return all
}

// merged is what all queues have, by halves: so that each pair is moved only as often as the number of queues can be halved.
func merged[K cmp.Ordered, V any](queues []*Queue[K, V]) []pair[K, V] {
	switch len(queues) {
	case 0:
		return nil
	case 1:
		return queues[0].pairs()
	}
	half := len(queues) / 2
	return joined(merged(queues[:half]), merged(queues[half:]))
}

// joined is two sorted lists as one; of equal keys those of a are ahead.
func joined[K cmp.Ordered, V any](a, b []pair[K, V]) []pair[K, V] {
	all := make([]pair[K, V], 0, len(a)+len(b))
	for len(a) > 0 && len(b) > 0 {
		if cmp.Compare(b[0].key, a[0].key) < 0 {
			all, b = append(all, b[0]), b[1:]
		} else {
			all, a = append(all, a[0]), a[1:]
		}
	}
	return append(append(all, a...), b...)
}
