package useriter_test

import (
	"testing"

	"sediment/api"
	"sediment/merge"
	"sediment/useriter"
)

// few is an iterator that sees b, d and f, by how, among what is not seen.
func few(t *testing.T, how int) *useriter.Iter {
	t.Helper()
	l := []api.Entry{del("a", 4), put("a", 3, "no"), put("b", 3, "B"), put("c", 9, "no"), put("d", 9, "no"), put("d", 4, "D"), put("d", 2, "no"), put("e", 1, "no"), put("f", 5, "F"), del("f", 4), del("g", 2)}
	ranges := []api.Tombstone{tomb("e", "f", 2)}
	if how == api.Reverse {
		ranges = []api.Tombstone{tomb("e", "d", 2)}
	}
	return fresh(t, how, list(t, how, l...), ranges, 5, api.Bounds{})
}

// fewPairs is what few sees, in order.
func fewPairs(how int) []pair {
	l := []pair{{"b", "B"}, {"d", "D"}, {"f", "F"}}
	if how == api.Reverse {
		return back(l)
	}
	return l
}

// P16.2: First and Next go through all, Last and Prev the other way about, up to nowhere.
func TestFirstAndLast(t *testing.T) {
	for _, how := range hows() {
		it, l := few(t, how), fewPairs(how)
		at(t, "First", it.First(), it, l[0])
		at(t, "Next", it.Next(), it, l[1])
		at(t, "Next", it.Next(), it, l[2])
		nowhere(t, "Next behind the last", it.Next(), it)
		at(t, "Last", it.Last(), it, l[2])
		at(t, "Prev", it.Prev(), it, l[1])
		at(t, "Prev", it.Prev(), it, l[0])
		nowhere(t, "Prev ahead of the first", it.Prev(), it)
	}
}

// P16.2: Seek stands at the first that is not ahead of the key, Before at the last that is not behind; one that finds nothing leaves it nowhere.
func TestSeekAndBefore(t *testing.T) {
	for _, how := range hows() {
		for _, k := range []string{"", "a", "a\xff", "b", "b\x00", "c", "c\xff", "d", "d\x00", "e", "f", "f\x00", "g", "\xff"} {
			around(t, how, few(t, how), k, fewPairs(how))
			it := few(t, how)
			it.First()
			around(t, how, it, k, fewPairs(how))
		}
	}
}

// P16.2: moves go on from where it stands, whatever brought it there.
func TestMovesGoOn(t *testing.T) {
	for _, how := range hows() {
		it, l := few(t, how), fewPairs(how)
		at(t, "Seek", it.Seek("d"), it, l[1])
		at(t, "Next", it.Next(), it, l[2])
		at(t, "Prev", it.Prev(), it, l[1])
		at(t, "Prev", it.Prev(), it, l[0])
		at(t, "Before", it.Before("d"), it, l[1])
		at(t, "Prev", it.Prev(), it, l[0])
		at(t, "Next", it.Next(), it, l[1])
		at(t, "Next", it.Next(), it, l[2])
		nowhere(t, "Next", it.Next(), it)
		at(t, "First", it.First(), it, l[0])
	}
}

// P16.2: by Reverse a greater key comes ahead.
func TestSeekByReverse(t *testing.T) {
	it := few(t, api.Reverse)
	at(t, "Seek", it.Seek("e"), it, pair{"d", "D"})
	at(t, "Before", it.Before("c"), it, pair{"d", "D"})
	at(t, "Seek", it.Seek("\xff"), it, pair{"f", "F"})
	nowhere(t, "Seek", it.Seek("a"), it)
	at(t, "Before", it.Before("a"), it, pair{"b", "B"})
	nowhere(t, "Before", it.Before("g"), it)
}

// P16.2: the bounds hold for moves, also where Seek and Before ask beyond them.
func TestMovesWithinBounds(t *testing.T) {
	l := []api.Entry{put("a", 1, "A"), put("b", 1, "B"), put("c", 1, "C"), put("d", 1, "D"), put("e", 1, "E")}
	it := fresh(t, api.Bytewise, list(t, api.Bytewise, l...), nil, 1, span("b", "d"))
	at(t, "First", it.First(), it, pair{"b", "B"})
	nowhere(t, "Prev", it.Prev(), it)
	at(t, "Last", it.Last(), it, pair{"c", "C"})
	nowhere(t, "Next", it.Next(), it)
	at(t, "Seek", it.Seek("a"), it, pair{"b", "B"})
	at(t, "Before", it.Before("e"), it, pair{"c", "C"})
	at(t, "Before", it.Before("d"), it, pair{"c", "C"})
	nowhere(t, "Seek", it.Seek("d"), it)
	nowhere(t, "Before", it.Before("a"), it)
	it = fresh(t, api.Reverse, list(t, api.Reverse, l...), nil, 1, span("d", "b"))
	at(t, "First", it.First(), it, pair{"d", "D"})
	at(t, "Last", it.Last(), it, pair{"c", "C"})
	at(t, "Seek", it.Seek("e"), it, pair{"d", "D"})
	at(t, "Before", it.Before("a"), it, pair{"c", "C"})
	nowhere(t, "Seek", it.Seek("b"), it)
	nowhere(t, "Before", it.Before("e"), it)
}

// P16.2: it stands at a key with an empty value, and at the empty key.
func TestEmptyKeyAndValue(t *testing.T) {
	for _, how := range hows() {
		it := fresh(t, how, list(t, how, put("", 1, "")), nil, 1, api.Bounds{})
		at(t, "First", it.First(), it, pair{})
		nowhere(t, "Next", it.Next(), it)
		at(t, "Last", it.Last(), it, pair{})
		nowhere(t, "Prev", it.Prev(), it)
		at(t, "Seek", it.Seek(""), it, pair{})
		has(t, it, "", "")
		hasNot(t, it, "\x00")
	}
}

// P16.3: Close puts it nowhere; it goes on from there as a new one.
func TestClose(t *testing.T) {
	it := few(t, api.Bytewise)
	it.Close()
	nowhere(t, "closed", false, it)
	at(t, "Last", it.Last(), it, pair{"f", "F"})
	it.Close()
	it.Close()
	nowhere(t, "closed", false, it)
	tells(t, it, fewPairs(api.Bytewise))
}

// Two iterators of one source know nothing of one another.
func TestTwoIterators(t *testing.T) {
	s := list(t, api.Bytewise, put("a", 1, "A"), put("b", 2, "B"))
	x, y := fresh(t, api.Bytewise, s, nil, 1, api.Bounds{}), fresh(t, api.Bytewise, s, []api.Tombstone{tomb("a", "b", 2)}, 2, api.Bounds{})
	at(t, "First", x.First(), x, pair{"a", "A"})
	nowhere(t, "the other one", false, y)
	at(t, "First", y.First(), y, pair{"b", "B"})
	at(t, "still", true, x, pair{"a", "A"})
	x.Close()
	at(t, "still", true, y, pair{"b", "B"})
}

// The zero value does not panic.
func TestZeroIter(t *testing.T) {
	var it useriter.Iter
	tells(t, &it, nil)
	it.Seek("a")
	it.Before("a")
	it.Next()
	it.Prev()
	it.Get("a")
}

// P16.3: All and Back go through all, wherever it stands, and leave it there; they may be gone through several times, ended at any place, and moved in.
func TestAllAndBack(t *testing.T) {
	for _, how := range hows() {
		it, l := few(t, how), fewPairs(how)
		at(t, "Seek", it.Seek("d"), it, l[1])
		all, turned := it.All(), it.Back()
		for range 2 {
			for n := range 5 {
				want := l[:min(n, 3)]
				if n == 0 {
					want = l
				}
				alike(t, "All", some(all, n), want)
				alike(t, "Back", some(turned, n), back(l)[:len(want)])
			}
			at(t, "still", true, it, l[1])
		}
		var got []pair
		for k, v := range all {
			got = append(got, pair{k, v})
			alike(t, "Back within", pairs(turned), back(l))
			alike(t, "All within", pairs(all), l)
			it.Last()
		}
		alike(t, "All", got, l)
		at(t, "moved", true, it, l[2])
		it.Close()
		alike(t, "All of a closed one", pairs(all), l)
		nowhere(t, "closed", false, it)
	}
}

// P16.3: Get tells each key's value, wherever it stands, and leaves it there.
func TestGet(t *testing.T) {
	for _, how := range hows() {
		it, l := few(t, how), fewPairs(how)
		at(t, "First", it.First(), it, l[0])
		for _, p := range l {
			has(t, it, p.key, p.value)
		}
		for _, k := range []string{"", "a", "c", "e", "g", "b\x00", "d\x00", "\xff"} {
			hasNot(t, it, k)
		}
		at(t, "still", true, it, l[0])
	}
}

// Where a source tells the same key more than once, Next and Prev leave none of the further keys out, and stand at none twice.
func TestMovesPastManyEntries(t *testing.T) {
	for _, how := range hows() {
		var l []api.Entry
		for seq := range uint64(50) {
			l = append(l, put("a", seq, "A"), put("b", seq, "B"), put("b", seq, "B"), put("c", seq, "C"))
		}
		l = append(l, put("b", api.MaxSeq, "late"), entry("b", api.MaxSeq, api.RangeDelete, ""), del("b", 0))
		it := fresh(t, how, merge.Merged(how, []merge.Source{list(t, how, l[:100]...), list(t, how, l[100:]...)}), nil, 49, api.Bounds{})
		want := []pair{{"a", "A"}, {"b", "B"}, {"c", "C"}}
		if how == api.Reverse {
			want = back(want)
		}
		tells(t, it, want)
	}
}
