package useriter_test

import (
	"testing"

	"sediment/api"
	"sediment/merge"
)

// The chapter's example: a: Put 1 at 3, Delete at 5; b: Put 2 at 4; [b, c) deleted at 6.
func TestExample(t *testing.T) {
	for _, how := range hows() {
		s := list(t, how, put("a", 3, "1"), del("a", 5), put("b", 4, "2"))
		range6 := tomb("b", "c", 6)
		if how == api.Reverse {
			range6 = tomb("b", "a", 6)
		}
		for seq, want := range map[uint64][]pair{2: nil, 3: {{"a", "1"}}, 4: {{"a", "1"}, {"b", "2"}}, 5: {{"b", "2"}}, 6: nil, 7: nil} {
			if how == api.Reverse {
				want = back(want)
			}
			tells(t, fresh(t, how, s, []api.Tombstone{range6}, seq, api.Bounds{}), want)
		}
	}
}

// 16.2: of a key's entries up to the number the first one in the order counts, and only a Put is seen.
func TestLastThatWasDone(t *testing.T) {
	for _, how := range hows() {
		l := []api.Entry{put("k", 2, "2"), put("k", 4, "4"), del("k", 6), put("k", 8, "8"), entry("k", 10, api.RangeDelete, "z"), put("k", 12, "")}
		want := map[uint64][]pair{0: nil, 1: nil, 2: {{"k", "2"}}, 3: {{"k", "2"}}, 4: {{"k", "4"}}, 5: {{"k", "4"}}, 6: nil, 7: nil, 8: {{"k", "8"}}, 9: {{"k", "8"}}, 10: nil, 11: nil, 12: {{"k", ""}}, api.MaxSeq: {{"k", ""}}}
		for seq, p := range want {
			it := fresh(t, how, list(t, how, l...), nil, seq, api.Bounds{})
			tells(t, it, p)
			if len(p) == 0 {
				hasNot(t, it, "k")
			}
			around(t, how, it, "a", p)
			around(t, how, it, "k", p)
			around(t, how, it, "z", p)
		}
	}
}

// 16.2: of entries with the same number the greater kind is first in the order; one of a kind RangeDelete in the source is like Delete, and deletes no range.
func TestKinds(t *testing.T) {
	for _, how := range hows() {
		for _, c := range []struct {
			l    []api.Entry
			want []pair
		}{
			{[]api.Entry{put("k", 3, "x"), del("k", 3)}, []pair{{"k", "x"}}},
			{[]api.Entry{put("k", 3, "x"), entry("k", 3, api.RangeDelete, "m")}, nil},
			{[]api.Entry{del("k", 3), put("k", 2, "x")}, nil},
			{[]api.Entry{entry("k", 4, api.RangeDelete, "a"), entry("k", 4, api.RangeDelete, "z"), put("k", 3, "x"), put("l", 3, "y"), put("j", 3, "y")}, []pair{{"j", "y"}, {"l", "y"}}},
			{[]api.Entry{entry("k", 3, 3, "x"), put("k", 2, "y")}, nil},
			{[]api.Entry{entry("k", 3, -1, "x"), put("k", 2, "y")}, nil},
		} {
			want := c.want
			if how == api.Reverse {
				want = back(want)
			}
			tells(t, fresh(t, how, list(t, how, c.l...), nil, 4, api.Bounds{}), want)
			tells(t, fresh(t, how, list(t, how, c.l...), nil, api.MaxSeq, api.Bounds{}), want)
		}
		l := []api.Entry{entry("k", 9, 3, "x"), put("k", 9, "y"), put("j", 9, "z")}
		it := fresh(t, how, list(t, how, l...), nil, 9, api.Bounds{})
		tells(t, it, []pair{{"j", "z"}})
		hasNot(t, it, "k")
	}
}

// 16.2: of entries with the same key the first one that the source tells counts, also back.
func TestSameKey(t *testing.T) {
	for _, how := range hows() {
		same := []api.Entry{put("k", 3, "first"), put("k", 3, "second"), put("k", 3, "third")}
		tells(t, fresh(t, how, list(t, how, same...), nil, 5, api.Bounds{}), []pair{{"k", "first"}})
		m := merge.Merged(how, []merge.Source{nil, list(t, how, put("k", 3, "first"), put("k", 9, "late")), list(t, how, same[1:]...), list(t, how, del("k", 3), put("k", 2, "old"))})
		tells(t, fresh(t, how, m, nil, 5, api.Bounds{}), []pair{{"k", "first"}})
		tells(t, fresh(t, how, m, nil, 2, api.Bounds{}), []pair{{"k", "old"}})
	}
}

// 16.2: a tombstone deletes what it lies over, if its number is greater than the entry's and at most the view's.
func TestRanges(t *testing.T) {
	for _, how := range hows() {
		l := []api.Entry{put("a", 5, "1"), put("b", 5, "2"), put("b\x00", 5, "3"), put("c", 5, "4")}
		for _, tombs := range [][]api.Tombstone{
			{tomb("b", "c", 4)}, {tomb("b", "c", 5)}, {tomb("b", "c", 6)}, {tomb("b", "c", 7)}, {tomb("b", "c", 8)}, {tomb("b", "c", api.MaxSeq)},
			{tomb("b", "b\x00", 6)}, {tomb("b\x00", "c", 6)}, {tomb("b", "b", 6)}, {tomb("c", "b", 6)}, {tomb("", "z", 6)}, {tomb("z", "", 6)},
			{tomb("a", "c", 4), tomb("b", "c", 8)}, {tomb("a", "c", 4), tomb("b", "c", 6)}, {tomb("a", "c", 6), tomb("b", "c", 8)}, {tomb("a", "b", 6), tomb("b", "d", 7)}, {tomb("a", "b", 6), tomb("a", "b", 6)},
		} {
			for _, ranges := range [][]api.Tombstone{tombs, turned(tombs)} {
				for seq := uint64(3); seq < 10; seq++ {
					tells(t, fresh(t, how, list(t, how, l...), ranges, seq, api.Bounds{}), view(how, l, ranges, seq, api.Bounds{}))
				}
			}
		}
	}
}

// 16.2: a put behind a range that was deleted is seen, and only the last one counts.
func TestRangesAndLaterPuts(t *testing.T) {
	l := []api.Entry{put("k", 2, "2"), put("k", 6, "6")}
	tombs := []api.Tombstone{tomb("a", "z", 4), tomb("k", "l", 8)}
	for seq, want := range map[uint64][]pair{1: nil, 2: {{"k", "2"}}, 3: {{"k", "2"}}, 4: nil, 5: nil, 6: {{"k", "6"}}, 7: {{"k", "6"}}, 8: nil, 9: nil} {
		tells(t, fresh(t, api.Bytewise, list(t, api.Bytewise, l...), tombs, seq, api.Bounds{}), want)
	}
	tells(t, fresh(t, api.Bytewise, list(t, api.Bytewise, put("k", 0, "x")), []api.Tombstone{tomb("a", "z", 0)}, 9, api.Bounds{}), []pair{{"k", "x"}})
	tells(t, fresh(t, api.Bytewise, list(t, api.Bytewise, put("k", 0, "x")), []api.Tombstone{tomb("a", "z", 1)}, 9, api.Bounds{}), nil)
}
