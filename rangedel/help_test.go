package rangedel_test

import (
	"bytes"
	"fmt"
	"math"
	"math/rand/v2"
	"slices"
	"strings"
	"testing"

	"sediment/api"
	"sediment/rangedel"
)

func tomb(begin, end string, seq uint64) api.Tombstone {
	return api.Tombstone{Begin: begin, End: end, Seq: seq}
}

func frag(begin, end string, seqs ...uint64) api.Fragment {
	return api.Fragment{Begin: begin, End: end, Seqs: seqs}
}

// text is n bytes.
func text(n int) string { return strings.Repeat("t", n) }

// name is a user key that is greater the greater i is.
func name(i int) string { return fmt.Sprintf("%06d", i) }

// hows are both comparators.
func hows() []int { return []int{api.Bytewise, api.Reverse} }

// wrongHows are numbers that are no comparator's.
func wrongHows() []int { return []int{2, 3, -1, math.MaxInt, math.MinInt} }

// compare orders user keys by the chapter's words.
func compare(how int, a, b string) int {
	c := bytes.Compare([]byte(a), []byte(b))
	if how == api.Reverse {
		return -c
	}
	return c
}

// turned is tombstones that lie by the other comparator as l lies by one.
func turned(l []api.Tombstone) []api.Tombstone {
	l = slices.Clone(l)
	for i, x := range l {
		l[i].Begin, l[i].End = x.End, x.Begin
	}
	return l
}

// alike tells whether fragments are the same.
func alike(a, b []api.Fragment) bool {
	return slices.EqualFunc(a, b, func(x, y api.Fragment) bool {
		return x.Begin == y.Begin && x.End == y.End && slices.Equal(x.Seqs, y.Seqs)
	})
}

// told is a list as a message shows it: not whole, if it is long.
func told[T any](l []T) string {
	if len(l) > 20 {
		return fmt.Sprintf("%d, from %v to %v", len(l), l[0], l[len(l)-1])
	}
	return fmt.Sprint(l)
}

// splits wants Split's answer of tombstones, and that a set of them has just these fragments.
func splits(t *testing.T, how int, l []api.Tombstone, want []api.Fragment) {
	t.Helper()
	got, e := rangedel.Split(how, l)
	if e != api.OK || !alike(got, want) {
		t.Errorf("Split(%d, %s) = %s, %d, want %s", how, told(l), told(got), e, told(want))
	}
	if f := fresh(t, how, l).Fragments(); !alike(f, want) {
		t.Errorf("Fragments of New(%d, %s) = %s, want %s", how, told(l), told(f), told(want))
	}
}

// refuses wants the error of Split and New, and nothing beside it.
func refuses(t *testing.T, how int, l []api.Tombstone, want api.Errno) {
	t.Helper()
	if f, e := rangedel.Split(how, l); len(f) != 0 || e != want {
		t.Errorf("Split(%d, %d tombstones): %d fragments, %d, want %d", how, len(l), len(f), e, want)
	}
	if s, e := rangedel.New(how, l); s != nil || e != want {
		t.Errorf("New(%d, %d tombstones): nil %t, %d, want %d", how, len(l), s == nil, e, want)
	}
}

// joins wants Join's answer.
func joins(t *testing.T, how int, l []api.Fragment, want []api.Tombstone, err api.Errno) {
	t.Helper()
	if got, e := rangedel.Join(how, l); e != err || !slices.Equal(got, want) {
		t.Errorf("Join(%d, %s) = %s, %d, want %s, %d", how, told(l), told(got), e, told(want), err)
	}
}

// fresh is a set of tombstones that it must take.
func fresh(t *testing.T, how int, l []api.Tombstone) *rangedel.Set {
	t.Helper()
	s, e := rangedel.New(how, l)
	if s == nil || e != api.OK {
		t.Fatalf("New(%d, %d tombstones): nil %t, %d", how, len(l), s == nil, e)
	}
	return s
}

// model is tombstones that are gone through from end to end.
type model struct {
	how  int
	list []api.Tombstone
}

// over tells whether a tombstone lies over a key.
func (m model) over(x api.Tombstone, key string) bool {
	return compare(m.how, x.Begin, key) <= 0 && compare(m.how, key, x.End) < 0
}

// seqs is the numbers of all that lie over a key, falling, each once.
func (m model) seqs(key string) []uint64 {
	var l []uint64
	for _, x := range m.list {
		if m.over(x, key) {
			l = append(l, x.Seq)
		}
	}
	slices.Sort(l)
	slices.Reverse(l)
	return slices.Compact(l)
}

// bounds is the ends of all that lie over something, in order, each once.
func (m model) bounds() []string {
	var l []string
	for _, x := range m.list {
		if m.over(x, x.Begin) {
			l = append(l, x.Begin, x.End)
		}
	}
	slices.SortFunc(l, func(a, b string) int { return compare(m.how, a, b) })
	return slices.Compact(l)
}

// fragments is each piece between two bounds over which something lies. (It lies over the whole piece, or over none of its keys.)
func (m model) fragments() []api.Fragment {
	var l []api.Fragment
	keys := m.bounds()
	for i := 1; i < len(keys); i++ {
		if seqs := m.seqs(keys[i-1]); len(seqs) > 0 {
			l = append(l, frag(keys[i-1], keys[i], seqs...))
		}
	}
	return l
}

func (m model) most(key string, seq uint64) uint64 {
	for _, n := range m.seqs(key) {
		if n <= seq {
			return n
		}
	}
	return 0
}

func (m model) covers(k api.Key, seq uint64) bool {
	return slices.ContainsFunc(m.seqs(k.User), func(n uint64) bool { return n > k.Seq && n <= seq })
}

// whole looks at each place from begin on, ahead of end, at which what lies there may change.
func (m model) whole(begin, end string, below, seq uint64) bool {
	for _, key := range append(m.bounds(), begin) {
		if compare(m.how, key, begin) >= 0 && compare(m.how, key, end) < 0 && !m.covers(api.Key{User: key, Seq: below}, seq) {
			return false
		}
	}
	return true
}

func (m model) cut(begin, end string) []api.Tombstone {
	var l []api.Tombstone
	for _, f := range m.fragments() {
		for _, seq := range f.Seqs {
			x := tomb(f.Begin, f.End, seq)
			if compare(m.how, begin, x.Begin) > 0 {
				x.Begin = begin
			}
			if compare(m.how, end, x.End) < 0 {
				x.End = end
			}
			if compare(m.how, x.Begin, x.End) < 0 {
				l = append(l, x)
			}
		}
	}
	return l
}

func (m model) next(key string) (string, bool) {
	for _, k := range m.bounds() {
		if compare(m.how, k, key) > 0 {
			return k, true
		}
	}
	return "", false
}

// tells wants a set to tell of keys and numbers what its model tells.
func tells(t *testing.T, s *rangedel.Set, m model, key string, low, seq uint64) {
	t.Helper()
	if got, want := s.Most(key, seq), m.most(key, seq); got != want {
		t.Errorf("%v: Most(%q, %d) = %d, want %d", m, key, seq, got, want)
	}
	for kind := range 3 {
		k := api.Key{User: key, Seq: low, Kind: kind}
		if got, want := s.Covers(k, seq), m.covers(k, seq); got != want {
			t.Errorf("%v: Covers(%v, %d) = %t, want %t", m, k, seq, got, want)
		}
	}
	next, is := s.Next(key)
	if want, there := m.next(key); next != want || is != there {
		t.Errorf("%v: Next(%q) = %q, %t, want %q, %t", m, key, next, is, want, there)
	}
}

// spans wants a set to tell of what lies between two keys what its model tells.
func spans(t *testing.T, s *rangedel.Set, m model, begin, end string, below, seq uint64) {
	t.Helper()
	if got, want := s.Whole(begin, end, below, seq), m.whole(begin, end, below, seq); got != want {
		t.Errorf("%v: Whole(%q, %q, %d, %d) = %t, want %t", m, begin, end, below, seq, got, want)
	}
	if got, want := s.Cut(begin, end), m.cut(begin, end); !slices.Equal(got, want) {
		t.Errorf("%v: Cut(%q, %q) = %v, want %v", m, begin, end, got, want)
	}
}

// chance is random numbers that are the same in every run.
func chance(seed uint64) *rand.Rand { return rand.New(rand.NewPCG(9, seed)) }

// someKeys are few user keys, of which some are the beginnings of others.
func someKeys() []string {
	return []string{"", "\x00", "a", "a\x00", "aa", "ab", "b", "ba", "c", "d", "\x7f", "\x80", "\xff", "\xff\xff"}
}

func someKey(r *rand.Rand) string { return someKeys()[r.IntN(len(someKeys()))] }

// someSeq is one of few numbers, the least and the greatest ones among them.
func someSeq(r *rand.Rand) uint64 {
	if r.IntN(20) == 0 {
		return api.MaxSeq - uint64(r.IntN(2))
	}
	return uint64(r.IntN(12))
}

// asked is a number up to which one sees, which may be one that no tombstone has.
func asked(r *rand.Rand) uint64 {
	if r.IntN(10) == 0 {
		return math.MaxUint64 - uint64(r.IntN(2))
	}
	return someSeq(r)
}

// someTombs is tombstones, of which some lie over nothing.
func someTombs(r *rand.Rand) []api.Tombstone {
	var l []api.Tombstone
	for range r.IntN(9) {
		l = append(l, tomb(someKey(r), someKey(r), someSeq(r)))
	}
	return l
}
