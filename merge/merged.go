package merge

import (
	"container/heap"
	"iter"
	"slices"

	"sediment/api"
)

// merged is a source of all that several ones have.
type merged struct {
	how     int
	sources []Source
}

// Merged is a source of all entries of several sources; of the same keys the entry of the source that stands ahead comes first.
func Merged(how int, l []Source) Source {
	return &merged{how, slices.Clone(l)}
}

// All goes through the entries that are not ahead of a key.
func (m *merged) All(from api.Key) iter.Seq[api.Entry] {
	return func(yield func(api.Entry) bool) {
		m.through(onward(m.how), from, yield)
	}
}

// Back goes through the entries that are not behind a key, from the last one on.
func (m *merged) Back(from api.Key) iter.Seq[api.Entry] {
	return func(yield func(api.Entry) bool) {
		m.through(backward(m.how), from, yield)
	}
}

// through tells what the sources have from a key on: always of the one whose head comes first.
func (m *merged) through(w way, from api.Key, yield func(api.Entry) bool) {
	l := m.start(w, from)
	for l.Len() > 0 {
		h := heap.Pop(l).(*head)
		if !w.run(h, l, yield) {
			return
		}
	}
}

// start is the heads of the sources that have an entry from a key on.
func (m *merged) start(w way, from api.Key) *heads {
	l := &heads{ahead: w.ahead}
	for i, s := range m.sources {
		for e := range w.entries(s, from) {
			heap.Push(l, &head{Entry: e, source: s, place: i})
			break
		}
	}
	return l
}

// run tells what a head stands at and what its source has behind that, as long as no other head comes ahead; then the head is one of these. It answers whether the one who is told wants to go on.
func (w way) run(h *head, l *heads, yield func(api.Entry) bool) bool {
	if !yield(h.Entry) {
		return false
	}
	for e := range w.rest(h) {
		h.Entry = e
		if l.Len() > 0 && w.ahead(l.list[0], h) {
			heap.Push(l, h)
			return true
		}
		if !yield(e) {
			return false
		}
	}
	return true
}
