package merge

import (
	"iter"

	"sediment/api"
)

// head is where one of several sources stands: at the entry that it tells next.
type head struct {
	api.Entry
	source Source
	place  int
}

// rest goes through what the head's source has behind the entry where it stands. It asks anew, as a going through that was ended can't be gone on with, and leaves that entry out: it is the first one with its key, since no source is left between two with the same key.
func (w way) rest(h *head) iter.Seq[api.Entry] {
	return func(yield func(api.Entry) bool) {
		k, again := h.Key, true
		for e := range w.entries(h.source, k) {
			if again && e.Key == k {
				again = false
				continue
			}
			if !yield(e) {
				return
			}
		}
	}
}

// ahead tells whether what a head stands at comes ahead of what another one stands at.
func (w way) ahead(a, b *head) bool {
	c := w.order(a.Key, b.Key)
	return c < 0 || c == 0 && w.place(a.place, b.place) < 0
}

// heads is a heap of heads: the one that comes first of all is on top.
type heads struct {
	list  []*head
	ahead func(a, b *head) bool
}

func (l *heads) Len() int           { return len(l.list) }
func (l *heads) Less(i, j int) bool { return l.ahead(l.list[i], l.list[j]) }
func (l *heads) Swap(i, j int)      { l.list[i], l.list[j] = l.list[j], l.list[i] }

// Push takes a head in behind all others.
func (l *heads) Push(x any) {
	l.list = append(l.list, x.(*head))
}

// Pop takes the last one out.
func (l *heads) Pop() any {
	n := len(l.list) - 1
	x := l.list[n]
	l.list = l.list[:n]
	return x
}
