package memtable

import (
	"cmp"
	"slices"

	"sediment/api"
	"sediment/codec"
)

// ranges is tombstones, by their begins, their ends, the greater sequence number first.
type ranges struct {
	how    int
	sorted []api.Tombstone
}

// add puts a tombstone in, and tells whether it was not there.
func (r *ranges) add(x api.Tombstone) bool {
	at, is := slices.BinarySearchFunc(r.sorted, x, r.order)
	if is {
		return false
	}
	r.sorted = slices.Insert(r.sorted, at, x)
	return true
}

// order orders tombstones: -1, 0, 1 if a comes ahead of b, is the same, comes behind.
func (r *ranges) order(a, b api.Tombstone) int {
	if c := codec.Compare(r.how, a.Begin, b.Begin); c != 0 {
		return c
	}
	if c := codec.Compare(r.how, a.End, b.End); c != 0 {
		return c
	}
	return cmp.Compare(b.Seq, a.Seq)
}

// over is the greatest sequence number, up to one, of the tombstones over a key, and whether there is one.
func (r *ranges) over(key string, seq uint64) (uint64, bool) {
	most, is := uint64(0), false
	for _, x := range r.sorted {
		if codec.Compare(r.how, x.Begin, key) > 0 {
			break // those further on begin behind the key, too
		}
		if x.Seq <= seq && codec.Compare(r.how, key, x.End) < 0 {
			most, is = max(most, x.Seq), true
		}
	}
	return most, is
}
