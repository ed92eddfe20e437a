package rangedel_test

import (
	"math"
	"slices"
	"testing"

	"sediment/api"
	"sediment/rangedel"
)

// P9.1: known answers.
func TestSplit(t *testing.T) {
	for _, c := range []struct {
		l    []api.Tombstone
		want []api.Fragment
	}{
		{nil, nil},
		{[]api.Tombstone{tomb("a", "e", 5), tomb("c", "g", 9)}, []api.Fragment{frag("a", "c", 5), frag("c", "e", 9, 5), frag("e", "g", 9)}},
		{[]api.Tombstone{tomb("c", "g", 9), tomb("a", "e", 5)}, []api.Fragment{frag("a", "c", 5), frag("c", "e", 9, 5), frag("e", "g", 9)}},
		// Those that lie over nothing: they cut nothing, either.
		{[]api.Tombstone{tomb("a", "a", 5), tomb("", "", 1), tomb("c", "b", 9)}, nil},
		{[]api.Tombstone{tomb("a", "e", 5), tomb("c", "c", 6), tomb("d", "b", 7), tomb("x", "x", 8)}, []api.Fragment{frag("a", "e", 5)}},
		// Next to each other they stay apart, whether with the same number or not.
		{[]api.Tombstone{tomb("b", "c", 5), tomb("a", "b", 5)}, []api.Fragment{frag("a", "b", 5), frag("b", "c", 5)}},
		{[]api.Tombstone{tomb("a", "c", 5), tomb("b", "d", 5)}, []api.Fragment{frag("a", "b", 5), frag("b", "c", 5), frag("c", "d", 5)}},
		{[]api.Tombstone{tomb("a", "b", 4), tomb("b", "c", 5)}, []api.Fragment{frag("a", "b", 4), frag("b", "c", 5)}},
		// Each number once.
		{[]api.Tombstone{tomb("a", "b", 5), tomb("a", "b", 5)}, []api.Fragment{frag("a", "b", 5)}},
		{[]api.Tombstone{tomb("a", "c", 5), tomb("a", "c", 7), tomb("a", "c", 5), tomb("b", "c", 7)}, []api.Fragment{frag("a", "b", 7, 5), frag("b", "c", 7, 5)}},
		// A gap, also one in which there is but one key.
		{[]api.Tombstone{tomb("a", "b", 5), tomb("c", "d", 5)}, []api.Fragment{frag("a", "b", 5), frag("c", "d", 5)}},
		{[]api.Tombstone{tomb("", "a", 5), tomb("a\x00", "b", 5)}, []api.Fragment{frag("", "a", 5), frag("a\x00", "b", 5)}},
		// One within another, with one end, with one beginning.
		{[]api.Tombstone{tomb("a", "d", 3), tomb("b", "c", 2)}, []api.Fragment{frag("a", "b", 3), frag("b", "c", 3, 2), frag("c", "d", 3)}},
		{[]api.Tombstone{tomb("a", "d", 3), tomb("b", "d", 4)}, []api.Fragment{frag("a", "b", 3), frag("b", "d", 4, 3)}},
		{[]api.Tombstone{tomb("a", "d", 3), tomb("a", "b", 4)}, []api.Fragment{frag("a", "b", 4, 3), frag("b", "d", 3)}},
		// The least and the greatest number; bytes from the least to the greatest.
		{[]api.Tombstone{tomb("", "\xff", 0), tomb("\x7f", "\x80", api.MaxSeq)}, []api.Fragment{frag("", "\x7f", 0), frag("\x7f", "\x80", api.MaxSeq, 0), frag("\x80", "\xff", 0)}},
		// The beginning of a key comes ahead of it.
		{[]api.Tombstone{tomb("a", "aa", 1), tomb("a", "b", 2)}, []api.Fragment{frag("a", "aa", 2, 1), frag("aa", "b", 2)}},
	} {
		splits(t, api.Bytewise, c.l, c.want)
		var back []api.Fragment
		for _, f := range slices.Backward(c.want) {
			back = append(back, frag(f.End, f.Begin, f.Seqs...))
		}
		splits(t, api.Reverse, turned(c.l), back)
	}
}

// P9.1: by the comparator: what lies over something by one lies over nothing by the other one.
func TestSplitByComparator(t *testing.T) {
	l := []api.Tombstone{tomb("a", "c", 1), tomb("d", "b", 2)}
	splits(t, api.Bytewise, l, []api.Fragment{frag("a", "c", 1)})
	splits(t, api.Reverse, l, []api.Fragment{frag("d", "b", 2)})
}

// P9.1: wrong comparators, ahead of all other errors.
func TestSplitRefusesComparators(t *testing.T) {
	for _, how := range wrongHows() {
		refuses(t, how, nil, api.ErrArg)
		refuses(t, how, []api.Tombstone{tomb("a", "b", 1)}, api.ErrArg)
		refuses(t, how, []api.Tombstone{tomb(text(1025), "b", 1)}, api.ErrArg)
		refuses(t, how, make([]api.Tombstone, 1025), api.ErrArg)
	}
}

// P9.1: tombstones that can't be, one by one, each one's errors in the chapter's order.
func TestSplitRefusesTombstones(t *testing.T) {
	long, late := text(1025), uint64(1<<56)
	for _, how := range hows() {
		for _, c := range []struct {
			l    []api.Tombstone
			want api.Errno
		}{
			{[]api.Tombstone{tomb("a", "b", late)}, api.ErrArg},
			{[]api.Tombstone{tomb("a", "b", math.MaxUint64)}, api.ErrArg},
			{[]api.Tombstone{tomb(long, "b", 1)}, api.ErrLong},
			{[]api.Tombstone{tomb("a", long, 1)}, api.ErrLong},
			{[]api.Tombstone{tomb(long, long, late)}, api.ErrArg},
			// Those that lie over nothing, too.
			{[]api.Tombstone{tomb("a", "a", late), tomb("b", "b", 1)}, api.ErrArg},
			{[]api.Tombstone{tomb("b", "b", 1), tomb(long, long, 1)}, api.ErrLong},
			// One ahead of the next one.
			{[]api.Tombstone{tomb("a", "b", 1), tomb("a", long, 1), tomb("a", "b", late)}, api.ErrLong},
			{[]api.Tombstone{tomb("a", "b", 1), tomb("a", "b", late), tomb("a", long, 1)}, api.ErrArg},
		} {
			refuses(t, how, c.l, c.want)
			refuses(t, how, turned(c.l), c.want)
		}
	}
}

// P9.1: too many, ahead of what is wrong with one.
func TestSplitRefusesTooMany(t *testing.T) {
	for _, how := range hows() {
		refuses(t, how, make([]api.Tombstone, 1025), api.ErrLong)
		refuses(t, how, slices.Repeat([]api.Tombstone{tomb("a", "b", math.MaxUint64)}, 1025), api.ErrLong)
		splits(t, how, make([]api.Tombstone, 1024), nil)
	}
}

// P9.1: the longest ends, and the greatest number.
func TestSplitTakesTheEdges(t *testing.T) {
	a, b := text(1023)+"a", text(1023)+"b"
	splits(t, api.Bytewise, []api.Tombstone{tomb(a, b, api.MaxSeq)}, []api.Fragment{frag(a, b, api.MaxSeq)})
	splits(t, api.Reverse, []api.Tombstone{tomb(b, a, api.MaxSeq)}, []api.Fragment{frag(b, a, api.MaxSeq)})
}

// nested is as many tombstones as there may be, each within the one ahead: no others have more fragments and numbers.
func nested(how int) []api.Tombstone {
	var l []api.Tombstone
	for i := range api.MaxTombs {
		l = append(l, tomb(name(i), name(2*api.MaxTombs-i), uint64(i)))
	}
	if how == api.Reverse {
		return turned(l)
	}
	return l
}

// P9.1: as many tombstones as there may be; what Split tells of them Join takes.
func TestSplitAndJoinOfMany(t *testing.T) {
	for _, how := range hows() {
		l := nested(how)
		want := model{how, l}.fragments()
		splits(t, how, l, want)
		f, _ := rangedel.Split(how, l)
		got, e := rangedel.Join(how, f)
		if len(f) != 2047 || len(got) != 1<<20 || e != api.OK {
			t.Fatalf("%d fragments, %d tombstones, %d", len(f), len(got), e)
		}
		if middle := f[1023].Seqs; len(middle) != 1024 || middle[0] != 1023 || middle[1023] != 0 {
			t.Errorf("%s", told(middle))
		}
		// Any order is as good.
		for i, j := range chance(1).Perm(len(l)) {
			l[i], l[j] = l[j], l[i]
		}
		splits(t, how, l, want)
	}
}

// P9.1: known answers.
func TestJoin(t *testing.T) {
	for _, how := range hows() {
		joins(t, how, nil, nil, api.OK)
	}
	joins(t, api.Bytewise, []api.Fragment{frag("a", "c", 5), frag("c", "e", 9, 5), frag("e", "g", 9)},
		[]api.Tombstone{tomb("a", "c", 5), tomb("c", "e", 9), tomb("c", "e", 5), tomb("e", "g", 9)}, api.OK)
	joins(t, api.Reverse, []api.Fragment{frag("g", "e", 9), frag("e", "c", 9, 5), frag("b", "", 3, 2, 1)},
		[]api.Tombstone{tomb("g", "e", 9), tomb("e", "c", 9), tomb("e", "c", 5), tomb("b", "", 3), tomb("b", "", 2), tomb("b", "", 1)}, api.OK)
	joins(t, api.Bytewise, []api.Fragment{frag("", "a", api.MaxSeq, 0), frag("a\x00", text(1024), 0)},
		[]api.Tombstone{tomb("", "a", api.MaxSeq), tomb("", "a", 0), tomb("a\x00", text(1024), 0)}, api.OK)
}

// P9.1: fragments that can't be.
func TestJoinRefuses(t *testing.T) {
	for _, l := range [][]api.Fragment{
		{frag("a", "a", 1)},
		{frag("", "", 1)},
		{frag("b", "a", 1)},
		{frag("aa", "a", 1)},
		{frag("a", "b")},
		{frag("a", "b", 1, 1)},
		{frag("a", "b", 1, 2)},
		{frag("a", "b", 3, 2, 2)},
		{frag("a", "b", 3, 1, 2)},
		{frag("a", "b", api.MaxSeq+1)},
		{frag("a", "b", math.MaxUint64, 1)},
		{frag("a", "b", 1), frag("a", "b", 1)},
		{frag("a", "c", 1), frag("b", "d", 1)},
		{frag("a", "b\x00", 1), frag("b", "d", 1)},
		{frag("c", "d", 1), frag("a", "b", 1)},
		{frag("a", "b", 1), frag("b", "c", 1), frag("c", "c", 1)},
		{frag("a", "b", 1), frag("c", "d", 1), frag("b", "c", 1)},
		{frag("a", "b", 1), frag("b", "c"), frag("c", "d", 1)},
	} {
		joins(t, api.Bytewise, l, nil, api.ErrArg)
		back := slices.Clone(l)
		for i, f := range l {
			back[i].Begin, back[i].End = f.End, f.Begin
		}
		slices.Reverse(back)
		joins(t, api.Reverse, back, nil, api.ErrArg)
	}
	// By the other comparator.
	joins(t, api.Reverse, []api.Fragment{frag("a", "b", 1)}, nil, api.ErrArg)
	joins(t, api.Reverse, []api.Fragment{frag("b", "a", 1), frag("c", "b", 1)}, nil, api.ErrArg)
}

// P9.1: wrong comparators.
func TestJoinRefusesComparators(t *testing.T) {
	for _, how := range wrongHows() {
		joins(t, how, nil, nil, api.ErrArg)
		joins(t, how, []api.Fragment{frag("a", "b", 1)}, nil, api.ErrArg)
	}
}

// P9.1: texts that are too long, ahead of all that is wrong else.
func TestJoinRefusesLongTexts(t *testing.T) {
	long, full := text(1025), text(1024)
	for _, how := range append(hows(), wrongHows()...) {
		joins(t, how, []api.Fragment{frag("a", long, 1)}, nil, api.ErrLong)
		joins(t, how, []api.Fragment{frag(long, "a", 1)}, nil, api.ErrLong)
		joins(t, how, []api.Fragment{frag("b", "b"), frag("a", long, 1, 1)}, nil, api.ErrLong)
		joins(t, how, []api.Fragment{frag(long, long, math.MaxUint64)}, nil, api.ErrLong)
	}
	joins(t, api.Bytewise, []api.Fragment{frag("a", full, 1)}, []api.Tombstone{tomb("a", full, 1)}, api.OK)
	joins(t, api.Reverse, []api.Fragment{frag(full, "a", 1)}, []api.Tombstone{tomb(full, "a", 1)}, api.OK)
}

// P9.1: as many fragments as there may be, and one more.
func TestJoinOfManyFragments(t *testing.T) {
	var l []api.Fragment
	var want []api.Tombstone
	for i := range 2048 {
		l = append(l, frag(name(i), name(i+1), uint64(i)))
		want = append(want, tomb(name(i), name(i+1), uint64(i)))
	}
	joins(t, api.Bytewise, l, want, api.OK)
	joins(t, api.Bytewise, append(l, frag(name(2048), name(2049), 1)), nil, api.ErrLong)
	for _, how := range append(hows(), wrongHows()...) {
		joins(t, how, make([]api.Fragment, 2049), nil, api.ErrLong)
	}
	joins(t, api.Bytewise, make([]api.Fragment, 2048), nil, api.ErrArg)
}

// P9.1: as many numbers in all as there may be, of one fragment or of several, and one more.
func TestJoinOfManyNumbers(t *testing.T) {
	seqs := make([]uint64, 1<<20)
	for i := range seqs {
		seqs[i] = uint64(len(seqs) - i)
	}
	for _, l := range [][]api.Fragment{
		{frag("a", "b", seqs...)},
		{frag("a", "b", seqs[:9]...), frag("b", "c", seqs[9:]...)},
	} {
		got, e := rangedel.Join(api.Bytewise, l)
		if len(got) != 1<<20 || e != api.OK || got[0] != tomb("a", "b", 1<<20) || got[1<<20-1] != tomb(l[len(l)-1].Begin, l[len(l)-1].End, 1) {
			t.Errorf("%s, %d", told(got), e)
		}
		more := append(slices.Clone(l), frag("c", "d", 1))
		for _, how := range append(hows(), wrongHows()...) {
			joins(t, how, more, nil, api.ErrLong)
		}
	}
	joins(t, api.Reverse, []api.Fragment{frag("a", "b", make([]uint64, 1<<20+1)...)}, nil, api.ErrLong)
	joins(t, api.Bytewise, []api.Fragment{frag("a", "b", make([]uint64, 1<<20)...)}, nil, api.ErrArg)
}

// What is handed in is not changed, its spare room neither, and what is answered is new.
func TestSplitAndJoinKeepNothing(t *testing.T) {
	l := append(make([]api.Tombstone, 0, 9), tomb("c", "g", 9), tomb("b", "a", 3), tomb("a", "e", 5), tomb("a", "e", 9))
	was := slices.Clone(l[:cap(l)])
	want := []api.Fragment{frag("a", "c", 9, 5), frag("c", "e", 9, 5), frag("e", "g", 9)}
	one, e := rangedel.Split(api.Bytewise, l)
	other, _ := rangedel.Split(api.Bytewise, l)
	if e != api.OK || !alike(one, want) || !slices.Equal(l[:cap(l)], was) {
		t.Errorf("%v, %d, of %v", one, e, l)
	}
	joined, e := rangedel.Join(api.Bytewise, one)
	again, _ := rangedel.Join(api.Bytewise, one)
	if e != api.OK || !alike(one, want) || !slices.Equal(joined, again) {
		t.Errorf("%v, %d, of %v", joined, e, one)
	}
	clear(joined[:cap(joined)])
	if !alike(one, want) || len(again) != 5 || again[0] != tomb("a", "c", 9) {
		t.Errorf("%v, of %v", again, one)
	}
	for i, f := range one {
		clear(f.Seqs[:cap(f.Seqs)])
		if !alike(one[i+1:], want[i+1:]) || !alike(other, want) || !slices.Equal(l[:cap(l)], was) {
			t.Errorf("behind a list that was cleared: %v, %v, of %v", one, other, l)
		}
	}
	clear(one[:cap(one)])
	if !alike(other, want) {
		t.Errorf("%v", other)
	}
}
