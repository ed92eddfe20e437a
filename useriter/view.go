package useriter

import (
	"iter"

	"sediment/api"
	"sediment/codec"
)

// onward goes through what is seen and within the bounds, from a key of entries on.
func (t *Iter) onward(from api.Key) iter.Seq2[string, string] {
	return t.seen(firsts(t.known(t.within(t.all(from)))))
}

// backward goes through what is seen and within the bounds, from the last that is not behind a key of entries on.
func (t *Iter) backward(from api.Key) iter.Seq2[string, string] {
	return t.seen(lasts(t.known(t.within(t.back(from)))))
}

// only goes through a key alone, if it is seen and within the bounds: from the newest on nothing is later than is seen.
func (t *Iter) only(key string) iter.Seq2[string, string] {
	l := while(t.all(t.newest(key)), func(e api.Entry) bool { return e.User == key })
	return t.seen(firsts(t.within(l)))
}

// all is the source's entries from a key on. It is asked only when they are gone through; a source that is none, or answers no list, has none.
func (t *Iter) all(from api.Key) iter.Seq[api.Entry] {
	return func(yield func(api.Entry) bool) {
		if t.source != nil {
			through(t.source.All(from), yield)
		}
	}
}

// back is the source's entries that are not behind a key, from the last one on, asked for likewise.
func (t *Iter) back(from api.Key) iter.Seq[api.Entry] {
	return func(yield func(api.Entry) bool) {
		if t.source != nil {
			through(t.source.Back(from), yield)
		}
	}
}

// through goes through a list, if it is one.
func through(l iter.Seq[api.Entry], yield func(api.Entry) bool) {
	if l != nil {
		l(yield)
	}
}

// while goes through a list up to the first entry for which something does not hold.
func while(l iter.Seq[api.Entry], holds func(e api.Entry) bool) iter.Seq[api.Entry] {
	return func(yield func(api.Entry) bool) {
		for e := range l {
			if !holds(e) || !yield(e) {
				return
			}
		}
	}
}

// within ends a list, onward or back, where it leaves the bounds: it begins within them, or leaves them at once.
func (t *Iter) within(l iter.Seq[api.Entry]) iter.Seq[api.Entry] {
	return while(l, func(e api.Entry) bool { return t.inside(e.User) })
}

// inside tells whether a user key is within the bounds.
func (t *Iter) inside(user string) bool {
	b := t.bounds
	return !(b.HasLow && codec.Compare(t.how, user, b.Low) < 0) && !(b.HasHigh && codec.Compare(t.how, user, b.High) >= 0)
}

// known leaves out what was done later than is seen.
func (t *Iter) known(l iter.Seq[api.Entry]) iter.Seq[api.Entry] {
	return func(yield func(api.Entry) bool) {
		for e := range l {
			if e.Seq <= t.seq && !yield(e) {
				return
			}
		}
	}
}

// firsts goes through the first entry of each user key: of a list onward that is what was done last.
func firsts(l iter.Seq[api.Entry]) iter.Seq[api.Entry] {
	return func(yield func(api.Entry) bool) {
		user, begun := "", false
		for e := range l {
			if begun && e.User == user {
				continue
			}
			user, begun = e.User, true
			if !yield(e) {
				return
			}
		}
	}
}

// lasts goes through the last entry of each user key, which a list back tells where one onward tells the first.
func lasts(l iter.Seq[api.Entry]) iter.Seq[api.Entry] {
	return func(yield func(api.Entry) bool) {
		last, begun := api.Entry{}, false
		for e := range l {
			if begun && e.User != last.User && !yield(last) {
				return
			}
			last, begun = e, true
		}
		if begun {
			yield(last)
		}
	}
}

// seen goes through the keys and values of those entries that put something which no range deleted since.
func (t *Iter) seen(l iter.Seq[api.Entry]) iter.Seq2[string, string] {
	return func(yield func(string, string) bool) {
		for e := range l {
			if e.Kind == api.Put && !t.ranges.Covers(e.Key, t.seq) && !yield(e.User, e.Value) {
				return
			}
		}
	}
}
