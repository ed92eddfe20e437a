package rangedel

import (
	"cmp"
	"slices"

	"sediment/api"
	"sediment/codec"
)

// maxFragments is how many fragments there are at most: tombstones have two ends each.
const maxFragments = 2 * api.MaxTombs

// maxSeqs is how many sequence numbers fragments have at most in all: as many as those of tombstones that lie one within another.
const maxSeqs = api.MaxTombs * api.MaxTombs

// Split is tombstones as fragments that do not overlap, in order.
func Split(how int, l []api.Tombstone) ([]api.Fragment, api.Errno) {
	if !isHow(how) {
		return nil, api.ErrArg
	}
	if len(l) > api.MaxTombs {
		return nil, api.ErrLong
	}
	for _, x := range l {
		if x.Seq > api.MaxSeq {
			return nil, api.ErrArg
		}
		if isLong(x.Begin, x.End) {
			return nil, api.ErrLong
		}
	}
	return split(how, lying(how, l)), api.OK
}

// Join is the tombstones of fragments: one for each sequence number of each of them.
func Join(how int, l []api.Fragment) ([]api.Tombstone, api.Errno) {
	if areMany(l) {
		return nil, api.ErrLong
	}
	if !isHow(how) || !canBe(how, l) {
		return nil, api.ErrArg
	}
	return tombstones(l), api.OK
}

// isHow tells whether a number is a comparator's.
func isHow(how int) bool { return how == api.Bytewise || how == api.Reverse }

// isLong tells whether one of a range's ends has too many bytes.
func isLong(begin, end string) bool { return max(len(begin), len(end)) > api.MaxKey }

// areMany tells whether there are too many fragments, sequence numbers, or bytes of an end.
func areMany(l []api.Fragment) bool {
	if len(l) > maxFragments {
		return true
	}
	for _, f := range l {
		if isLong(f.Begin, f.End) {
			return true
		}
	}
	return count(l) > maxSeqs
}

// count is how many sequence numbers fragments have in all.
func count(l []api.Fragment) int {
	n := 0
	for _, f := range l {
		n += len(f.Seqs)
	}
	return n
}

// canBe tells whether fragments rise without overlapping, with sequence numbers that fall.
func canBe(how int, l []api.Fragment) bool {
	for i, f := range l {
		if codec.Compare(how, f.Begin, f.End) >= 0 || !fall(f.Seqs) {
			return false
		}
		if i > 0 && codec.Compare(how, f.Begin, l[i-1].End) < 0 {
			return false
		}
	}
	return true
}

// fall tells whether there are sequence numbers, each of which can be, and is less than the one ahead.
func fall(seqs []uint64) bool {
	for i := 1; i < len(seqs); i++ {
		if seqs[i] >= seqs[i-1] {
			return false
		}
	}
	return len(seqs) > 0 && seqs[0] <= api.MaxSeq
}

// lying is those tombstones that lie over something.
func lying(how int, l []api.Tombstone) []api.Tombstone {
	var r []api.Tombstone
	for _, x := range l {
		if codec.Compare(how, x.Begin, x.End) < 0 {
			r = append(r, x)
		}
	}
	return r
}

// split is the fragments of tombstones that lie over something; these are put into another order.
func split(how int, l []api.Tombstone) []api.Fragment {
	byKey := func(a, b string) int { return codec.Compare(how, a, b) }
	pieces := between(cuts(l, byKey))
	// The latest come first: so a piece's numbers fall as they come to it, and the same ones stand side by side.
	slices.SortFunc(l, func(a, b api.Tombstone) int { return cmp.Compare(b.Seq, a.Seq) })
	for _, x := range l {
		first, _ := slices.BinarySearchFunc(pieces, x.Begin, func(f api.Fragment, key string) int { return byKey(f.Begin, key) })
		for i := first; i < len(pieces) && byKey(pieces[i].Begin, x.End) < 0; i++ {
			pieces[i].Seqs = added(pieces[i].Seqs, x.Seq)
		}
	}
	return slices.DeleteFunc(pieces, func(f api.Fragment) bool { return len(f.Seqs) == 0 })
}

// cuts is all ends of tombstones, in order, each once.
func cuts(l []api.Tombstone, byKey func(a, b string) int) []string {
	var keys []string
	for _, x := range l {
		keys = append(keys, x.Begin, x.End)
	}
	slices.SortFunc(keys, byKey)
	return slices.Compact(keys)
}

// between is the pieces from each key up to the next one, over which nothing lies yet.
func between(keys []string) []api.Fragment {
	var l []api.Fragment
	for i := 1; i < len(keys); i++ {
		l = append(l, api.Fragment{Begin: keys[i-1], End: keys[i]})
	}
	return l
}

// added is sequence numbers that fall, with one more that is not greater than the last one.
func added(seqs []uint64, seq uint64) []uint64 {
	if n := len(seqs); n > 0 && seqs[n-1] == seq {
		return seqs
	}
	return append(seqs, seq)
}

// tombstones is those of fragments, one by one.
func tombstones(l []api.Fragment) []api.Tombstone {
	r := make([]api.Tombstone, 0, count(l))
	for _, f := range l {
		for _, seq := range f.Seqs {
			r = append(r, api.Tombstone{Begin: f.Begin, End: f.End, Seq: seq})
		}
	}
	return r
}
