package useriter_test

import (
	"math"
	"slices"
	"strings"
	"testing"

	"sediment/api"
	"sediment/merge"
	"sediment/rangedel"
	"sediment/useriter"
)

// refuses wants New's error, and no iterator beside it.
func refuses(t *testing.T, how int, tombs []api.Tombstone, seq uint64, want api.Errno) {
	t.Helper()
	for _, s := range []merge.Source{nil, list(t, api.Bytewise, put("a", 1, "x"))} {
		if it, e := useriter.New(how, s, tombs, seq, api.Bounds{}); it != nil || e != want {
			t.Errorf("New(%d, .., %d tombstones, %d): nil %t, %d, want %d", how, len(tombs), seq, it == nil, e, want)
		}
	}
}

// P16.1: nil and rangedel.New's error, of the comparator and of the tombstones.
func TestNewsErrorsOfRanges(t *testing.T) {
	long := strings.Repeat("k", api.MaxKey+1)
	many := slices.Repeat([]api.Tombstone{tomb("a", "b", 1)}, api.MaxTombs+1)
	for _, l := range [][]api.Tombstone{nil, many, {tomb("a", "b", api.MaxSeq+1)}, {tomb(long, "z", 1)}, {tomb("a", long, 1)}, {tomb(long, "z", api.MaxSeq+1)}, {tomb("a", "b", math.MaxUint64), tomb(long, "b", 1)}} {
		for _, how := range append(hows(), wrongHows()...) {
			_, e := rangedel.New(how, l)
			if e != api.OK {
				refuses(t, how, l, 5, e)
			}
		}
	}
	refuses(t, api.Bytewise, many, 5, api.ErrLong)
	refuses(t, api.Bytewise, []api.Tombstone{tomb("a", "b", api.MaxSeq+1)}, 5, api.ErrArg)
	refuses(t, api.Bytewise, []api.Tombstone{tomb(long, "b", 1)}, 5, api.ErrLong)
	refuses(t, 2, nil, 5, api.ErrArg)
}

// P16.1: ErrArg, if seq is above MaxSeq; an error of the ranges is told first.
func TestNewsNumber(t *testing.T) {
	long := strings.Repeat("k", api.MaxKey+1)
	for _, how := range hows() {
		for _, seq := range []uint64{api.MaxSeq + 1, 1 << 63, math.MaxUint64} {
			refuses(t, how, nil, seq, api.ErrArg)
			refuses(t, how, []api.Tombstone{tomb("a", "b", 1)}, seq, api.ErrArg)
			refuses(t, how, []api.Tombstone{tomb("a", long, 1)}, seq, api.ErrLong)
		}
		it := fresh(t, how, list(t, how, put("a", api.MaxSeq, "1"), put("b", api.MaxSeq-1, "2"), put("b", 7, "3")), nil, api.MaxSeq, api.Bounds{})
		has(t, it, "a", "1")
		has(t, it, "b", "2")
		it = fresh(t, how, list(t, how, put("a", 0, "1"), put("b", 1, "2")), nil, 0, api.Bounds{})
		tells(t, it, []pair{{"a", "1"}})
	}
}

// P16.1: as many tombstones as there may be, and texts as long as these may be, are taken.
func TestNewsLimits(t *testing.T) {
	k := strings.Repeat("k", api.MaxKey)
	for _, how := range hows() {
		many := slices.Repeat([]api.Tombstone{tomb("a", "b", 5)}, api.MaxTombs-1)
		ends := tomb("i", k, api.MaxSeq)
		if how == api.Reverse {
			many, ends = turned(many), tomb(k, "i", api.MaxSeq)
		}
		it := fresh(t, how, list(t, how, put("a", 4, "1"), put("b", 4, "2"), put("j", 4, "3"), put(k, 4, "4")), append(many, ends), api.MaxSeq, api.Bounds{})
		if how == api.Bytewise {
			tells(t, it, []pair{{"b", "2"}, {k, "4"}})
		} else {
			tells(t, it, []pair{{"a", "1"}})
		}
	}
}

// P16.1: a new one stands nowhere; of a nil source there is nothing.
func TestNewStandsNowhere(t *testing.T) {
	for _, how := range hows() {
		nowhere(t, "new", false, fresh(t, how, list(t, how, put("a", 1, "x"), put("b", 1, "x")), nil, 5, api.Bounds{}))
		for _, s := range []merge.Source{nil, list(t, how), merge.Merged(how, nil), merge.Joined(how, nil, nil), mute{}} {
			it := fresh(t, how, s, []api.Tombstone{tomb("a", "b", 1)}, 5, span("a", "z"))
			nowhere(t, "new", false, it)
			tells(t, it, nil)
			nowhere(t, "Seek", it.Seek("a"), it)
			nowhere(t, "Before", it.Before("a"), it)
			hasNot(t, it, "a")
		}
	}
}

// P16.1, "within the bounds": not ahead of Low, ahead of High, by how; an end that is not there plays no part.
func TestBounds(t *testing.T) {
	for _, how := range hows() {
		var l []api.Entry
		for _, c := range "bdf" {
			l = append(l, put(string(c), 3, string(c)+"!"))
		}
		for _, low := range []string{"", "a", "b", "b\x00", "c", "d", "e", "f", "g"} {
			for _, high := range []string{"", "a", "b", "c", "d", "d\x00", "f", "f\x00", "g"} {
				for _, b := range []api.Bounds{{Low: low, High: high}, {Low: low, High: high, HasLow: true}, {Low: low, High: high, HasHigh: true}, span(low, high)} {
					want := view(how, l, nil, 5, b)
					it := fresh(t, how, list(t, how, l...), nil, 5, b)
					tells(t, it, want)
					for _, k := range []string{"a", "b", "c", "d", "e", "f", "g"} {
						if i := slices.Index(want, pair{k, k + "!"}); i >= 0 {
							has(t, it, k, k+"!")
						} else {
							hasNot(t, it, k)
						}
						around(t, how, it, k, want)
					}
				}
			}
		}
	}
}

// around wants Seek and Before of a key to stand where they should among these pairs.
func around(t *testing.T, how int, it *useriter.Iter, key string, l []pair) {
	t.Helper()
	i := slices.IndexFunc(l, func(p pair) bool { return compare(how, p.key, key) >= 0 })
	if found := it.Seek(key); i >= 0 {
		at(t, "Seek "+key, found, it, l[i])
	} else {
		nowhere(t, "Seek "+key, found, it)
	}
	turned := back(l)
	i = slices.IndexFunc(turned, func(p pair) bool { return compare(how, p.key, key) <= 0 })
	if found := it.Before(key); i >= 0 {
		at(t, "Before "+key, found, it, turned[i])
	} else {
		nowhere(t, "Before "+key, found, it)
	}
}

// P16.1: bounds may be longer than keys may be; keys may be as long as these, of whatever bytes, and empty.
func TestGreatKeysAndBounds(t *testing.T) {
	for _, how := range hows() {
		var l []api.Entry
		for _, n := range []int{0, 1, api.MaxKey - 1, api.MaxKey} {
			for _, b := range []byte{0, 'a', 254, 255} {
				l = append(l, put(string(slices.Repeat([]byte{b}, n)), uint64(n), "x"))
			}
		}
		l = slices.CompactFunc(sorted(how, l), func(a, b api.Entry) bool { return a.Key == b.Key })
		long := strings.Repeat("\xff", api.MaxKey+9)
		for _, b := range []api.Bounds{{}, span("", long), span(long, ""), {Low: long, HasLow: true}, {High: long, HasHigh: true}, {HasLow: true}, {HasHigh: true}} {
			it := fresh(t, how, list(t, how, l...), nil, api.MaxSeq, b)
			want := view(how, l, nil, api.MaxSeq, b)
			tells(t, it, want)
			for _, k := range []string{"", long, strings.Repeat("\xff", api.MaxKey), strings.Repeat("\x00", api.MaxKey+5)} {
				around(t, how, it, k, want)
			}
			hasNot(t, it, long)
		}
	}
}

// Memory: what was handed in is not kept, nor changed.
func TestKeepsNoArgument(t *testing.T) {
	for _, how := range hows() {
		room := []api.Tombstone{tomb("b", "c", 4), tomb("c", "b", 4), tomb("x", "y", 9)}
		was := slices.Clone(room)
		it := fresh(t, how, list(t, how, put("a", 3, "1"), put("b", 3, "2"), put("c", 3, "3")), room[:2], 5, api.Bounds{})
		want := pairs(it.All())
		if !slices.Equal(room, was) {
			t.Errorf("changed: %v", room)
		}
		for i := range room {
			room[i] = tomb("", "zz", 5)
		}
		tells(t, it, want)
		if len(want) != 2 {
			t.Errorf("%v", want)
		}
	}
}
