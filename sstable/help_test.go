package sstable_test

import (
	"fmt"
	"iter"
	"math"
	"math/rand/v2"
	"slices"
	"strings"
	"testing"

	"sediment/api"
	"sediment/codec"
	"sediment/rangedel"
	"sediment/sstable"
)

func key(user string, seq uint64, kind int) api.Key {
	return api.Key{User: user, Seq: seq, Kind: kind}
}

func entry(user string, seq uint64, kind int, value string) api.Entry {
	return api.Entry{Key: key(user, seq, kind), Value: value}
}

func put(user string, seq uint64, value string) api.Entry { return entry(user, seq, api.Put, value) }

func gone(user string, seq uint64) api.Entry { return entry(user, seq, api.Delete, "") }

func tomb(begin, end string, seq uint64) api.Tombstone {
	return api.Tombstone{Begin: begin, End: end, Seq: seq}
}

// text is n bytes.
func text(n int) string { return strings.Repeat("t", n) }

// name is a user key that is greater the greater i is.
func name(i int) string { return fmt.Sprintf("%06d", i) }

// small is options of small blocks and parts, by a comparator.
func small(how int) api.TableOptions {
	return api.TableOptions{How: how, Block: 30, Restart: 2, Part: 2, Bits: 10}
}

// great is options of blocks that are never full but by very many entries.
func great(how int) api.TableOptions {
	return api.TableOptions{How: how, Block: 1 << 20, Restart: 16, Part: 8, Bits: 10}
}

// hows are both comparators.
func hows() []int { return []int{api.Bytewise, api.Reverse} }

// wrongHows are numbers that are no comparator's.
func wrongHows() []int { return []int{2, 3, -1, math.MaxInt, math.MinInt} }

// letters is entries of one letter each, by a comparator, in small blocks and several parts.
func letters(how int) []api.Entry {
	var l []api.Entry
	for c := 'a'; c <= 't'; c++ {
		l = append(l, put(string(c), uint64(c-'a'+5), "v"))
	}
	l[3].Kind, l[3].Value = api.Delete, ""
	return sorted(how, l)
}

// sorted is entries in order, each key once.
func sorted(how int, l []api.Entry) []api.Entry {
	l = slices.Clone(l)
	slices.SortStableFunc(l, func(a, b api.Entry) int { return codec.Order(how, a.Key, b.Key) })
	return slices.CompactFunc(l, func(a, b api.Entry) bool { return a.Key == b.Key })
}

// nested is n tombstones that lie one within another: n times n in pieces.
func nested(n int) []api.Tombstone {
	var l []api.Tombstone
	for i := range n {
		l = append(l, tomb(name(i), name(4*n-i), uint64(i)))
	}
	return l
}

// turned is tombstones that lie by the other comparator as l lies by one.
func turned(l []api.Tombstone) []api.Tombstone {
	l = slices.Clone(l)
	for i, x := range l {
		l[i].Begin, l[i].End = x.End, x.Begin
	}
	return l
}

// lying is tombstones that lie by a comparator as l lies by Bytewise.
func lying(how int, l []api.Tombstone) []api.Tombstone {
	if how == api.Reverse {
		return turned(l)
	}
	return l
}

// pieces is the tombstones of the fragments of tombstones.
func pieces(t *testing.T, how int, l []api.Tombstone) []api.Tombstone {
	t.Helper()
	fragments, e := rangedel.Split(how, l)
	joined, f := rangedel.Join(how, fragments)
	if e != api.OK || f != api.OK {
		t.Fatal(e, f)
	}
	return joined
}

// built is the bytes of a table that Build must make.
func built(t *testing.T, o api.TableOptions, l []api.Entry, tombs []api.Tombstone) []byte {
	t.Helper()
	b, e := sstable.Build(o, l, tombs)
	if e != api.OK {
		t.Fatalf("Build(%v, %d entries, %d tombstones): %d", o, len(l), len(tombs), e)
	}
	return b
}

// opened is the table of bytes that must be one.
func opened(t *testing.T, how int, b []byte) *sstable.Table {
	t.Helper()
	x, e := sstable.Open(how, b)
	if x == nil || e != api.OK {
		t.Fatalf("Open(%d, %d bytes): nil %t, %d", how, len(b), x == nil, e)
	}
	return x
}

// made is the table of entries and tombstones.
func made(t *testing.T, o api.TableOptions, l []api.Entry, tombs []api.Tombstone) *sstable.Table {
	t.Helper()
	return opened(t, o.How, built(t, o, l, tombs))
}

// refuses wants Build's error, and nothing beside it.
func refuses(t *testing.T, what string, o api.TableOptions, l []api.Entry, tombs []api.Tombstone, want api.Errno) {
	t.Helper()
	if b, e := sstable.Build(o, l, tombs); len(b) != 0 || e != want {
		t.Errorf("%s: Build(%v, %d entries, %d tombstones): %d bytes, %d, want %d", what, o, len(l), len(tombs), len(b), e, want)
	}
}

// opens wants Open's error.
func opens(t *testing.T, what string, how int, b []byte, want api.Errno) {
	t.Helper()
	if x, e := sstable.Open(how, b); (x == nil) != (want != api.OK) || e != want {
		t.Errorf("%s: Open(%d, %d bytes): nil %t, %d, want %d", what, how, len(b), x == nil, e, want)
	}
}

// everything is all entries of a table.
func everything(how int, x *sstable.Table) []api.Entry {
	from := api.Key{Seq: math.MaxUint64, Kind: math.MaxInt}
	if how == api.Reverse {
		from.User = strings.Repeat("\xff", 1025)
	}
	return slices.Collect(x.All(from))
}

// goes wants what is gone through.
func goes(t *testing.T, what string, seq iter.Seq[api.Entry], want []api.Entry) {
	t.Helper()
	if got := slices.Collect(seq); !slices.Equal(got, want) {
		t.Errorf("%s: %v, want %v", what, got, want)
	}
}

// tells wants a table to tell what the sorted list of its entries tells: of a key and a number, and from a key on.
func tells(t *testing.T, x *sstable.Table, how int, l []api.Entry, k api.Key) {
	t.Helper()
	first, there := api.Entry{}, false
	for _, y := range l {
		if !there && y.User == k.User && y.Seq <= k.Seq {
			first, there = y, true
		}
	}
	if y, is := x.Get(k.User, k.Seq); y != first || is != there {
		t.Errorf("Get(%q, %d) = %v, %t, want %v, %t", k.User, k.Seq, y, is, first, there)
	}
	if there && !x.May(k.User) {
		t.Errorf("May(%q) misses it", k.User)
	}
	all := slices.DeleteFunc(slices.Clone(l), func(y api.Entry) bool { return codec.Order(how, y.Key, k) < 0 })
	goes(t, fmt.Sprintf("All(%v)", k), x.All(k), all)
	back := slices.DeleteFunc(slices.Clone(l), func(y api.Entry) bool { return codec.Order(how, y.Key, k) > 0 })
	slices.Reverse(back)
	goes(t, fmt.Sprintf("Back(%v)", k), x.Back(k), back)
}

// chance is random numbers that are the same in every run.
func chance(seed uint64) *rand.Rand { return rand.New(rand.NewPCG(10, seed)) }

// someUser is a user key; of many of them some are the same, and some beginnings of others.
func someUser(r *rand.Rand) string {
	return []string{"", "\x00", "a", "a\x00", "a\x01", "aa", "ab", "abc", "b", "ba", "c", "\x7f", "\x80", "\xff", "\xff\xff", text(130)}[r.IntN(16)]
}

// someKey is a key; now and then one that can't be, if it may.
func someKey(r *rand.Rand, wrong bool) api.Key {
	seq, kind := uint64(r.IntN(12)), r.IntN(2)
	if r.IntN(10) == 0 {
		seq = api.MaxSeq - uint64(r.IntN(2))
	}
	if wrong && r.IntN(6) == 0 {
		seq, kind = math.MaxUint64-uint64(r.IntN(2)), []int{-1, 2, 3, math.MinInt, math.MaxInt}[r.IntN(5)]
	}
	return key(someUser(r), seq, kind)
}

// someEntries is at most n entries, in order.
func someEntries(r *rand.Rand, how, n int) []api.Entry {
	var l []api.Entry
	for range r.IntN(n + 1) {
		l = append(l, api.Entry{Key: someKey(r, false), Value: []string{"", "x", "yz", text(127), text(128)}[r.IntN(5)]})
	}
	return sorted(how, l)
}

// someTombs is at most n tombstones, some of which lie over nothing.
func someTombs(r *rand.Rand, n int) []api.Tombstone {
	var l []api.Tombstone
	for range r.IntN(n + 1) {
		l = append(l, tomb(someUser(r), someUser(r), uint64(r.IntN(12))))
	}
	return l
}

// someOptions is any options; blocks are small ones, as a rule.
func someOptions(r *rand.Rand) api.TableOptions {
	return api.TableOptions{
		How:     r.IntN(2),
		Block:   []int{1, 20, 21, 40, 100, 333, 1000, 1 << 20}[r.IntN(8)],
		Restart: []int{1, 2, 3, 7, 16, 1024}[r.IntN(6)],
		Part:    []int{1, 2, 3, 8, 1024}[r.IntN(5)],
		Bits:    []int{0, 0, 1, 10, 64}[r.IntN(5)],
	}
}
