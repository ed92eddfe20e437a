package rangedel_test

import (
	"math"
	"slices"
	"testing"

	"sediment/api"
	"sediment/rangedel"
)

// P9.1, P9.2, P9.3: whatever tombstones there are, a set of them tells what they tell, one by one.
func TestIsItsTombstones(t *testing.T) {
	for seed := range uint64(1000) {
		r := chance(seed)
		m := model{r.IntN(2), someTombs(r)}
		splits(t, m.how, m.list, m.fragments())
		s := fresh(t, m.how, m.list)
		for _, key := range append(someKeys(), "bb", "zz", text(1500)) {
			tells(t, s, m, key, asked(r), asked(r))
		}
		for range 20 {
			spans(t, s, m, someKey(r), someKey(r), asked(r), asked(r))
		}
		for _, end := range m.bounds() {
			spans(t, s, m, someKey(r), end, 0, math.MaxUint64)
		}
	}
}

// P9.3: Split of Join of Split is Split.
func TestSplitOfJoinOfSplit(t *testing.T) {
	for seed := range uint64(1000) {
		r := chance(seed)
		how := r.IntN(2)
		f, e := rangedel.Split(how, someTombs(r))
		if e != api.OK {
			t.Fatal(e)
		}
		l, e := rangedel.Join(how, f)
		if e != api.OK {
			t.Fatalf("Join(%v): %d", f, e)
		}
		splits(t, how, l, f)
		r.Shuffle(len(l), func(i, j int) { l[i], l[j] = l[j], l[i] })
		splits(t, how, l, f)
	}
}

// P9.4: fragments rise, do not overlap, and lie over just the keys over which tombstones lie.
func TestFragmentsAreApart(t *testing.T) {
	for seed := range uint64(1000) {
		r := chance(seed)
		m := model{r.IntN(2), someTombs(r)}
		f, e := rangedel.Split(m.how, m.list)
		if e != api.OK {
			t.Fatal(e)
		}
		for i, x := range f {
			if compare(m.how, x.Begin, x.End) >= 0 || i > 0 && compare(m.how, f[i-1].End, x.Begin) > 0 {
				t.Errorf("%v: %v", m, f)
			}
		}
		for _, key := range append(someKeys(), "bb", "zz") {
			n := 0
			for _, x := range f {
				if compare(m.how, x.Begin, key) <= 0 && compare(m.how, key, x.End) < 0 {
					n++
				}
			}
			if n > 1 || (n == 1) != (len(m.seqs(key)) > 0) {
				t.Errorf("%v: %d fragments over %q", m, n, key)
			}
		}
	}
}

// P9.5: of a key between the two Most of what is cut is Most, of all others 0.
func TestCutIsMostBetween(t *testing.T) {
	for seed := range uint64(1000) {
		r := chance(seed)
		how, begin, end, seq := r.IntN(2), someKey(r), someKey(r), asked(r)
		s := fresh(t, how, someTombs(r))
		cut := fresh(t, how, s.Cut(begin, end))
		for _, key := range append(someKeys(), "bb", "zz") {
			want := uint64(0)
			if compare(how, begin, key) <= 0 && compare(how, key, end) < 0 {
				want = s.Most(key, seq)
			}
			if got := cut.Most(key, seq); got != want {
				t.Errorf("%v cut from %q to %q: Most(%q, %d) = %d, want %d", s.Fragments(), begin, end, key, seq, got, want)
			}
		}
	}
}

// A set of as many fragments and numbers as there may be is asked in good time, and rightly.
func TestSetOfMany(t *testing.T) {
	for _, how := range hows() {
		l := nested(how)
		s := fresh(t, how, l)
		for i, x := range l {
			top := uint64(i)
			for _, seq := range []uint64{0, top / 2, top, top + 1, math.MaxUint64} {
				if got := s.Most(x.Begin, seq); got != min(seq, top) {
					t.Fatalf("Most(%q, %d) = %d", x.Begin, seq, got)
				}
			}
			if s.Covers(api.Key{User: x.Begin, Seq: top}, math.MaxUint64) || s.Whole(x.Begin, x.End, top, math.MaxUint64) {
				t.Fatalf("of %v something later", x)
			}
			if i > 0 && (!s.Covers(api.Key{User: x.Begin, Seq: top - 1}, top) || !s.Whole(x.Begin, x.End, top-1, top)) {
				t.Fatalf("%v is not told", x)
			}
		}
		first, last := l[0].Begin, l[0].End
		all := s.Cut(first, last)
		joined, e := rangedel.Join(how, s.Fragments())
		if e != api.OK || len(all) != 1<<20 || !slices.Equal(all, joined) {
			t.Fatalf("%s, %s, %d", told(all), told(joined), e)
		}
		at, n := first, 0
		for next, is := s.Next(at); is; next, is = s.Next(at) {
			at, n = next, n+1
		}
		if at != last || n != 2047 {
			t.Errorf("%d ends up to %q", n, at)
		}
	}
}
