package merge

import (
	"iter"
	"slices"
	"sort"

	"sediment/api"
	"sediment/codec"
)

// joined is a source of several ones, each of which is behind the one ahead and is opened when it is come to.
type joined struct {
	how  int
	ends []api.Key
	open func(i int) Source
}

// Joined is a source of several ones, one behind the other; what ends tells of each is a key that none of its entries is behind.
func Joined(how int, ends []api.Key, open func(i int) Source) Source {
	if open == nil {
		return &joined{how: how}
	}
	return &joined{how, slices.Clone(ends), open}
}

// All goes through the entries that are not ahead of a key.
func (j *joined) All(from api.Key) iter.Seq[api.Entry] {
	return func(yield func(api.Entry) bool) {
		w := onward(j.how)
		for i := j.first(from); i < len(j.ends) && j.through(w, i, from, yield); i++ {
		}
	}
}

// Back goes through the entries that are not behind a key, from the last one on.
func (j *joined) Back(from api.Key) iter.Seq[api.Entry] {
	return func(yield func(api.Entry) bool) {
		w := backward(j.how)
		for i := min(j.first(from), len(j.ends)-1); i >= 0 && j.through(w, i, from, yield); i-- {
		}
	}
}

// first is the first source that may have an entry that is not ahead of a key; behind all of them, if there is none.
func (j *joined) first(from api.Key) int {
	return sort.Search(len(j.ends), func(i int) bool { return codec.Order(j.how, j.ends[i], from) >= 0 })
}

// through opens one of the sources and tells what it has from a key on, and answers whether the one who is told wants to go on.
func (j *joined) through(w way, i int, from api.Key, yield func(api.Entry) bool) bool {
	for e := range w.entries(j.open(i), from) {
		if !yield(e) {
			return false
		}
	}
	return true
}
