package queue

import "cmp"

// First is the first element in the order.
func (q *Queue[K, V]) First() (K, V, int, bool) { return q.first().told() }

// Last is the last element in the order.
func (q *Queue[K, V]) Last() (K, V, int, bool) { return q.last().told() }

// Pop takes the first element out.
func (q *Queue[K, V]) Pop() (K, V, int, bool) { return q.out(q.first()).told() }

// PopLast takes the last element out.
func (q *Queue[K, V]) PopLast() (K, V, int, bool) { return q.out(q.last()).told() }

// Until takes out what is due by k.
func (q *Queue[K, V]) Until(k K) ([]K, []V) {
	var keys []K
	var values []V
	for e := q.first(); e != nil && cmp.Compare(e.key, k) <= 0; e = q.first() {
		q.drop(e)
		keys = append(keys, e.key)
		values = append(values, e.value)
	}
	return keys, values
}

// first is the first element, nil if there is none.
func (q *Queue[K, V]) first() *element[K, V] {
	if q.Len() == 0 {
		return nil
	}
	return q.line.first()
}

// last is the last element, nil if there is none.
func (q *Queue[K, V]) last() *element[K, V] {
	if q.Len() == 0 {
		return nil
	}
	return q.line.last()
}

// out drops an element, if it is one, and hands it on.
func (q *Queue[K, V]) out(e *element[K, V]) *element[K, V] {
	if e != nil {
		q.drop(e)
	}
	return e
}

// told is what the calls say of an element, and of none.
func (e *element[K, V]) told() (K, V, int, bool) {
	if e == nil {
		var k K
		var v V
		return k, v, 0, false
	}
	return e.key, e.value, e.ticket, true
}
