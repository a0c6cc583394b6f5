package queue

// Get is what the element with a ticket has.
func (q *Queue[K, V]) Get(ticket int) (K, V, bool) {
	k, v, _, ok := q.with(ticket).told()
	return k, v, ok
}

// Change gives the element with a ticket another key, and lets it come anew.
func (q *Queue[K, V]) Change(ticket int, k K) bool {
	e := q.with(ticket)
	if e == nil {
		return false
	}
	q.line.take(e) // ahead of the change: it is found by its key
	e.key, e.came = k, q.arrival()
	q.line.put(e)
	return true
}

// Remove takes the element with a ticket out.
func (q *Queue[K, V]) Remove(ticket int) (V, bool) {
	_, v, _, ok := q.out(q.with(ticket)).told()
	return v, ok
}

// Rank is how many elements stand ahead of the one with a ticket.
func (q *Queue[K, V]) Rank(ticket int) (int, bool) {
	e := q.with(ticket)
	if e == nil {
		return 0, false
	}
	return q.line.ahead(e), true
}

// with is the element with a ticket, nil if none has it.
func (q *Queue[K, V]) with(ticket int) *element[K, V] {
	if q == nil {
		return nil
	}
	return q.byTicket[ticket]
}
