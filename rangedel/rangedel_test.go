package rangedel_test

import (
	"math"
	"slices"
	"testing"

	"sediment/api"
	"sediment/rangedel"
)

// example is the chapter's: its fragments are [a, c): 5; [c, e): 9, 5; [e, g): 9; and a further one behind a gap.
func example() []api.Tombstone {
	return []api.Tombstone{tomb("a", "e", 5), tomb("c", "g", 9), tomb("j", "k", 0), tomb("x", "x", 7)}
}

// P9.2: of no tombstones, and of such that lie over nothing.
func TestSetOfNothing(t *testing.T) {
	for _, how := range hows() {
		for _, l := range [][]api.Tombstone{nil, {tomb("a", "a", 5)}} {
			s := fresh(t, how, l)
			for _, key := range append(someKeys(), text(2000)) {
				tells(t, s, model{how: how}, key, 0, math.MaxUint64)
				spans(t, s, model{how: how}, key, "a", 0, math.MaxUint64)
			}
			if f := s.Fragments(); len(f) != 0 {
				t.Error(f)
			}
		}
	}
}

// P9.2: known answers.
func TestMost(t *testing.T) {
	s := fresh(t, api.Bytewise, example())
	for _, c := range []struct {
		key       string
		seq, want uint64
	}{
		{"d", 8, 5}, {"d", 9, 9}, {"d", 5, 5}, {"d", 4, 0}, {"d", 0, 0}, {"d", math.MaxUint64, 9},
		{"", 9, 0}, {"`", 9, 0}, {"a", 9, 5}, {"a", 4, 0}, {"b\xff", 9, 5}, {"c", 9, 9}, {"d\xff", 9, 9},
		{"e", 9, 9}, {"e", 8, 0}, {"f\xff\xff", 9, 9}, {"g", 9, 0}, {"h", 9, 0},
		{"j", 9, 0}, {"k", 9, 0}, {"x", 9, 0}, {text(2000), 9, 0}, {"d" + text(2000), 9, 9},
	} {
		if got := s.Most(c.key, c.seq); got != c.want {
			t.Errorf("Most(%q, %d) = %d, want %d", c.key, c.seq, got, c.want)
		}
	}
}

// P9.2: known answers: numbers greater than the entry's, and at most the one that is seen; its kind plays no part.
func TestCovers(t *testing.T) {
	s := fresh(t, api.Bytewise, example())
	for _, c := range []struct {
		user     string
		low, seq uint64
		want     bool
	}{
		{"d", 4, 8, true}, {"d", 5, 8, false}, {"d", 5, 9, true}, {"d", 8, 9, true}, {"d", 9, 9, false}, {"d", 9, math.MaxUint64, false},
		{"d", 0, 5, true}, {"d", 0, 4, false}, {"a", 4, 5, true}, {"a", 5, 9, false}, {"g", 0, 9, false}, {"", 0, 9, false},
		{"d", math.MaxUint64, math.MaxUint64, false}, {"j", 0, 9, false},
	} {
		for _, kind := range []int{api.Delete, api.Put, api.RangeDelete, -1, math.MaxInt} {
			if got := s.Covers(api.Key{User: c.user, Seq: c.low, Kind: kind}, c.seq); got != c.want {
				t.Errorf("Covers(%q at %d, %d) = %t", c.user, c.low, c.seq, got)
			}
		}
	}
}

// P9.2: known answers.
func TestWhole(t *testing.T) {
	s := fresh(t, api.Bytewise, example())
	for _, c := range []struct {
		begin, end string
		below, seq uint64
		want       bool
	}{
		{"a", "g", 4, 9, true}, {"a", "g", 4, math.MaxUint64, true}, {"a", "g", 5, 9, false}, {"a", "g", 4, 8, false}, {"a", "e", 4, 8, true},
		{"a", "h", 4, 9, false}, {"a", "g\x00", 4, 9, false}, {"", "g", 4, 9, false}, {"`\xff", "b", 4, 9, false},
		{"b", "f", 4, 9, true}, {"b", "c", 4, 5, true}, {"b", "c\x00", 5, 9, false}, {"c", "g", 5, 9, true}, {"c", "g", 8, 9, true}, {"c", "g", 9, 9, false},
		{"e", "f", 4, 8, false}, {"f", "j", 4, 9, false}, {"g", "h", 4, 9, false}, {"z", "zz", 4, 9, false}, {"d" + text(2000), "dz", 4, 9, true},
		// A number is greater than below, also if that is 0.
		{"j", "k", 0, 9, false},
		// The end is not behind the beginning.
		{"z", "b", 0, 0, true}, {"d", "d", 9, 0, true}, {"d", "b", 9, 0, true}, {"h", "h", 0, 9, true}, {"", "", 0, 0, true}, {"g", "a", 4, 9, true},
	} {
		if got := s.Whole(c.begin, c.end, c.below, c.seq); got != c.want {
			t.Errorf("Whole(%q, %q, %d, %d) = %t", c.begin, c.end, c.below, c.seq, got)
		}
	}
}

// P9.2: a gap is one, however little lies in it; fragments next to each other leave none.
func TestWholeHasGaps(t *testing.T) {
	gap := fresh(t, api.Bytewise, []api.Tombstone{tomb("", "a", 5), tomb("a\x00", "c", 5)})
	next := fresh(t, api.Bytewise, []api.Tombstone{tomb("", "a", 5), tomb("a", "c", 6)})
	if gap.Whole("", "b", 0, 9) || gap.Whole("a", "b", 0, 9) || gap.Whole("a", "a\x00", 0, 9) || !gap.Whole("", "a", 0, 9) || !gap.Whole("a\x00", "c", 0, 9) {
		t.Error("with a gap")
	}
	if !next.Whole("", "c", 0, 9) || !next.Whole("", "b", 4, 6) || next.Whole("", "b", 5, 6) || next.Whole("", "b", 4, 5) {
		t.Error("without a gap")
	}
	back := fresh(t, api.Reverse, []api.Tombstone{tomb("c", "a\x00", 5), tomb("a", "", 5)})
	if back.Whole("c", "", 0, 9) || back.Whole("a\x00", "a", 0, 9) || !back.Whole("c", "a\x00", 0, 9) || !back.Whole("a", "", 0, 9) || !back.Whole("", "c", 0, 9) {
		t.Error("the other way about")
	}
}

// P9.2: known answers.
func TestCut(t *testing.T) {
	s := fresh(t, api.Bytewise, example())
	deep := "d" + text(2000)
	for _, c := range []struct {
		begin, end string
		want       []api.Tombstone
	}{
		{"b", "d", []api.Tombstone{tomb("b", "c", 5), tomb("c", "d", 9), tomb("c", "d", 5)}},
		{"c", "e", []api.Tombstone{tomb("c", "e", 9), tomb("c", "e", 5)}},
		{"d", "d\x00", []api.Tombstone{tomb("d", "d\x00", 9), tomb("d", "d\x00", 5)}},
		{"", "z", []api.Tombstone{tomb("a", "c", 5), tomb("c", "e", 9), tomb("c", "e", 5), tomb("e", "g", 9), tomb("j", "k", 0)}},
		{"f", "jj", []api.Tombstone{tomb("f", "g", 9), tomb("j", "jj", 0)}},
		{"e", "j", []api.Tombstone{tomb("e", "g", 9)}},
		{deep, "e", []api.Tombstone{tomb(deep, "e", 9), tomb(deep, "e", 5)}},
		{"d", deep, []api.Tombstone{tomb("d", deep, 9), tomb("d", deep, 5)}},
		{"g", "j", nil}, {"", "a", nil}, {"k", "z", nil}, {"d", "d", nil}, {"d", "b", nil}, {"f", "b", nil}, {"z", "", nil},
	} {
		if got := s.Cut(c.begin, c.end); !slices.Equal(got, c.want) {
			t.Errorf("Cut(%q, %q) = %v, want %v", c.begin, c.end, got, c.want)
		}
	}
	back := fresh(t, api.Reverse, []api.Tombstone{tomb("e", "a", 5), tomb("g", "c", 9)})
	if got := back.Cut("d", "b"); !slices.Equal(got, []api.Tombstone{tomb("d", "c", 9), tomb("d", "c", 5), tomb("c", "b", 5)}) {
		t.Error(got)
	}
	if got := back.Cut("b", "d"); len(got) != 0 {
		t.Error(got)
	}
}

// P9.2: known answers.
func TestNext(t *testing.T) {
	s := fresh(t, api.Bytewise, example())
	back := fresh(t, api.Reverse, []api.Tombstone{tomb("e", "a", 5), tomb("\x00", "", 9)})
	for _, c := range []struct {
		s         *rangedel.Set
		key, want string
		is        bool
	}{
		{s, "", "a", true}, {s, "a", "c", true}, {s, "b", "c", true}, {s, "c", "e", true}, {s, "d", "e", true}, {s, "e", "g", true}, {s, "f\xff", "g", true},
		{s, "g", "j", true}, {s, "h", "j", true}, {s, "j", "k", true}, {s, "k", "", false}, {s, "x", "", false}, {s, text(2000), "", false},
		{back, "z", "e", true}, {back, "e", "a", true}, {back, "b", "a", true}, {back, "a", "\x00", true}, {back, "\x00", "", true}, {back, "", "", false},
	} {
		if got, is := c.s.Next(c.key); got != c.want || is != c.is {
			t.Errorf("Next(%q) = %q, %t, want %q, %t", c.key, got, is, c.want, c.is)
		}
	}
}

// A set keeps nothing that it was handed, and hands out nothing that it keeps.
func TestSetSharesNothing(t *testing.T) {
	l := append(make([]api.Tombstone, 0, 9), example()...)
	was, want := slices.Clone(l[:cap(l)]), model{api.Bytewise, example()}
	s := fresh(t, api.Bytewise, l)
	if !slices.Equal(l[:cap(l)], was) {
		t.Errorf("the tombstones were changed: %v", l)
	}
	clear(l[:cap(l)])
	one, other := s.Fragments(), s.Fragments()
	for i, f := range one {
		clear(f.Seqs[:cap(f.Seqs)])
		if !alike(one[i+1:], want.fragments()[i+1:]) {
			t.Errorf("behind a list that was cleared: %v", one)
		}
	}
	clear(one[:cap(one)])
	cut := s.Cut("b", "f")
	clear(cut[:cap(cut)])
	if !alike(other, want.fragments()) || !alike(s.Fragments(), want.fragments()) {
		t.Errorf("%v, %v", other, s.Fragments())
	}
	for _, key := range []string{"", "a", "b", "c", "d", "e", "f", "g"} {
		tells(t, s, want, key, 4, 9)
		spans(t, s, want, key, "f", 4, 9)
	}
}

// Sets know nothing of one another.
func TestSetsAreApart(t *testing.T) {
	x, y := fresh(t, api.Bytewise, []api.Tombstone{tomb("a", "c", 5)}), fresh(t, api.Reverse, []api.Tombstone{tomb("c", "a", 7)})
	if x.Most("a", 9) != 5 || x.Most("c", 9) != 0 || y.Most("a", 9) != 0 || y.Most("c", 9) != 7 || y.Most("b", 9) != 7 || x.Most("b", 9) != 5 {
		t.Error("Most")
	}
}
