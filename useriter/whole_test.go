package useriter_test

import (
	"fmt"
	"math/rand/v2"
	"slices"
	"testing"

	"sediment/api"
	"sediment/useriter"
)

// story is what was done with rising numbers: the entries and ranges, and behind each number the map that all up to it made.
type story struct {
	how    int
	l      []api.Entry
	ranges []api.Tombstone
	maps   []map[string]string
}

// told is a story of so many steps by chance.
func told(r *rand.Rand, how, steps int) story {
	s := story{how: how, maps: []map[string]string{{}}}
	now := map[string]string{}
	for i := range steps {
		seq, k := uint64(i+1), word(r)
		switch r.IntN(7) {
		case 0, 1:
			s.l = append(s.l, del(k, seq))
			delete(now, k)
		case 2:
			end := word(r)
			s.ranges = append(s.ranges, tomb(k, end, seq))
			for u := range now {
				if compare(how, k, u) <= 0 && compare(how, u, end) < 0 {
					delete(now, u)
				}
			}
		default:
			v := fmt.Sprint("v", seq)
			s.l = append(s.l, put(k, seq, v))
			now[k] = v
		}
		copied := map[string]string{}
		for u, v := range now {
			copied[u] = v
		}
		s.maps = append(s.maps, copied)
	}
	return s
}

// sortedMap is a map's keys and values, in order.
func sortedMap(how int, m map[string]string) []pair {
	var l []pair
	for k, v := range m {
		l = append(l, pair{k, v})
	}
	slices.SortFunc(l, func(a, b pair) int { return compare(how, a.key, b.key) })
	return l
}

// P16.4: what is seen at a number is the map that all up to that number made.
func TestAMap(t *testing.T) {
	r := chance(1)
	for range 60 {
		s := told(r, r.IntN(2), r.IntN(60))
		for seq, m := range s.maps {
			it := fresh(t, s.how, list(t, s.how, s.l...), s.ranges, uint64(seq), api.Bounds{})
			alike(t, "All", pairs(it.All()), sortedMap(s.how, m))
			if seq%7 == 0 {
				tells(t, it, sortedMap(s.how, m))
			}
			k := word(r)
			if v, is := m[k]; is {
				has(t, it, k, v)
			} else {
				hasNot(t, it, k)
			}
		}
		last := s.maps[len(s.maps)-1]
		tells(t, fresh(t, s.how, list(t, s.how, s.l...), s.ranges, api.MaxSeq, api.Bounds{}), sortedMap(s.how, last))
	}
}

// P16.5: Next and then Prev stands where it stood; Back is All turned about; Seek of a key that is seen stands there.
func TestToAndFro(t *testing.T) {
	r := chance(2)
	for range 100 {
		s := told(r, r.IntN(2), 60)
		it := fresh(t, s.how, list(t, s.how, s.l...), s.ranges, 30+r.Uint64N(40), chosen(r))
		l := pairs(it.All())
		alike(t, "Back", pairs(it.Back()), back(l))
		for i, p := range l {
			at(t, "Seek", it.Seek(p.key), it, p)
			if i+1 < len(l) {
				at(t, "Next", it.Next(), it, l[i+1])
				at(t, "Prev", it.Prev(), it, p)
			}
			if i > 0 {
				at(t, "Prev", it.Prev(), it, l[i-1])
				at(t, "Next", it.Next(), it, p)
			}
			at(t, "Before", it.Before(p.key), it, p)
		}
	}
}

// P16.6: entries and tombstones with a number above the view's change nothing.
func TestLaterOnes(t *testing.T) {
	r := chance(4)
	for range 100 {
		s := told(r, r.IntN(2), 60)
		seq, b := r.Uint64N(60), chosen(r)
		early := slices.DeleteFunc(slices.Clone(s.l), func(e api.Entry) bool { return e.Seq > seq })
		ranges := slices.DeleteFunc(slices.Clone(s.ranges), func(x api.Tombstone) bool { return x.Seq > seq })
		want := pairs(fresh(t, s.how, list(t, s.how, early...), ranges, seq, b).All())
		tells(t, fresh(t, s.how, list(t, s.how, s.l...), s.ranges, seq, b), want)
		more := append(slices.Clone(s.l), put(word(r), api.MaxSeq, "late"), entry(word(r), api.MaxSeq, api.RangeDelete, ""), del(word(r), seq+1))
		tells(t, fresh(t, s.how, list(t, s.how, more...), append(s.ranges, tomb("", "\xff\xff", api.MaxSeq), tomb("\xff\xff", "", seq+1)), seq, b), want)
	}
}

// The order in which the tombstones are handed in plays no part.
func TestRangesInWhateverOrder(t *testing.T) {
	r := chance(5)
	for range 50 {
		s := told(r, r.IntN(2), 60)
		var first *useriter.Iter
		for range 4 {
			it := fresh(t, s.how, list(t, s.how, s.l...), s.ranges, 55, api.Bounds{})
			if first == nil {
				first = it
			}
			alike(t, "All", pairs(it.All()), pairs(first.All()))
			r.Shuffle(len(s.ranges), func(i, j int) { s.ranges[i], s.ranges[j] = s.ranges[j], s.ranges[i] })
		}
	}
}
