package cache

// queue is the entries that wait, linked with one another: one that is used again leaves from wherever it stands.
type queue[V any] struct{ first, last *entry[V] }

// join puts an entry behind all others.
func (q *queue[V]) join(e *entry[V]) {
	e.ahead = q.last
	if q.last == nil {
		q.first = e
	} else {
		q.last.behind = e
	}
	q.last = e
}

// leave takes an entry from its place.
func (q *queue[V]) leave(e *entry[V]) {
	if e.ahead == nil {
		q.first = e.behind
	} else {
		e.ahead.behind = e.behind
	}
	if e.behind == nil {
		q.last = e.ahead
	} else {
		e.behind.ahead = e.ahead
	}
	// By its old neighbours it would keep what is gone.
	e.ahead, e.behind = nil, nil
}

func (q *queue[V]) keys() []string {
	var l []string
	for e := q.first; e != nil; e = e.behind {
		l = append(l, e.key)
	}
	return l
}
