package sstable_test

import (
	"fmt"
	"math"
	"slices"
	"strings"
	"testing"

	"sediment/api"
	"sediment/bloom"
	"sediment/codec"
)

// versions is entries of few keys, each with many numbers, so that one lies in several blocks and parts.
func versions(how int) []api.Entry {
	var l []api.Entry
	for _, user := range []string{"a", "b", "d"} {
		for seq := range uint64(30) {
			l = append(l, entry(user, 2*seq+1, int(seq%3+1)/2, "v"))
		}
	}
	return sorted(how, l)
}

// P10.3: of a key the entry with the greatest number that is seen.
func TestGet(t *testing.T) {
	for _, how := range hows() {
		l := versions(how)
		x := made(t, small(how), l, []api.Tombstone{tomb("a", "z", 99), tomb("z", "a", 99)})
		for _, user := range []string{"a", "b", "d"} {
			for seq := range uint64(63) {
				got, is := x.Get(user, seq)
				at := slices.IndexFunc(l, func(y api.Entry) bool { return y.User == user && y.Seq <= seq })
				if at < 0 && (is || got != api.Entry{}) || at >= 0 && (!is || got != l[at]) {
					t.Errorf("Get(%q, %d) = %v, %t", user, seq, got, is)
				}
			}
			if got, is := x.Get(user, math.MaxUint64); !is || got.Seq != 59 {
				t.Errorf("Get(%q, all) = %v, %t", user, got, is)
			}
		}
		for _, user := range []string{"", "A", "a\x00", "c", "dd", "e", text(2000)} {
			if got, is := x.Get(user, math.MaxUint64); is || got != (api.Entry{}) {
				t.Errorf("Get(%q) = %v, %t", user, got, is)
			}
		}
	}
}

// P10.3: of one number a Put stands ahead of a Delete.
func TestGetOfKinds(t *testing.T) {
	x := made(t, small(0), []api.Entry{put("a", 5, "x"), gone("a", 5), gone("a", 4)}, nil)
	for seq, want := range map[uint64]api.Entry{4: gone("a", 4), 5: put("a", 5, "x"), 6: put("a", 5, "x")} {
		if got, is := x.Get("a", seq); !is || got != want {
			t.Errorf("Get(a, %d) = %v, %t, want %v", seq, got, is, want)
		}
	}
}

// P10.3: with filters, by all parts and keys; without; of nothing.
func TestMay(t *testing.T) {
	for _, how := range hows() {
		for _, bits := range []int{0, 1, 4, 20} {
			for _, part := range []int{1, 2, 1024} {
				o := small(how)
				o.Bits, o.Part = bits, part
				l := slices.Concat(versions(how), letters(how))
				p := planOf(o, sorted(how, l), nil)
				x := opened(t, how, p.bytes())
				for _, key := range append(strings.Split("abcdefghijklmnopqrstuvwxyzABC", ""), "", "aa", "a\x00", "\xff", "tt", text(2000)) {
					if got, want := x.May(key), p.modelMay(key); got != want {
						t.Errorf("%v: May(%q) = %t, want %t", o, key, got, want)
					}
				}
			}
		}
	}
	if made(t, small(0), nil, []api.Tombstone{tomb("a", "c", 1)}).May("b") {
		t.Error("a key may be in a table of ranges alone")
	}
}

// P10.3: without filters every key may be there that is not behind all of them.
func TestMayWithoutFilters(t *testing.T) {
	o := api.TableOptions{Block: 1, Restart: 1, Part: 1}
	x := made(t, o, []api.Entry{put("b", 1, ""), put("d", 1, "")}, nil)
	for key, want := range map[string]bool{"": true, "a": true, "b": true, "c": true, "d": true, "d\x00": false, "e": false} {
		if x.May(key) != want {
			t.Errorf("May(%q) = %t", key, !want)
		}
	}
}

// P10.3: a part's filter says no, or yes, of a key that is not there; only the part is asked in which it would be.
func TestMayAsksOnePart(t *testing.T) {
	o := api.TableOptions{Block: 1, Restart: 1, Part: 1, Bits: 1}
	yes, no := 0, 0
	for i := range 1000 {
		low, high := name(3*i), name(3*i+2)
		x := made(t, o, []api.Entry{put(low, 1, ""), put(high, 1, "")}, nil)
		filter, _ := bloom.Build([]string{high}, 1)
		want := bloom.May(filter, name(3*i+1))
		if x.May(name(3*i+1)) != want {
			t.Errorf("May(%s) = %t", name(3*i+1), !want)
		}
		if want {
			yes++
		} else {
			no++
		}
	}
	if yes == 0 || no == 0 {
		t.Errorf("%d times yes, %d times no", yes, no)
	}
}

// P10.3: from each key on, either way, also from such as can't be.
func TestAllAndBack(t *testing.T) {
	for _, how := range hows() {
		l := sorted(how, slices.Concat(versions(how), letters(how)))
		x := made(t, small(how), l, []api.Tombstone{tomb("a", "z", 99), tomb("z", "a", 99)})
		for _, y := range l {
			for _, k := range []api.Key{y.Key, key(y.User, y.Seq+1, y.Kind), key(y.User, y.Seq, 2), key(y.User, y.Seq, -1), key(y.User+"\x00", 0, 0)} {
				tells(t, x, how, l, k)
			}
		}
		for _, k := range []api.Key{{}, key("", math.MaxUint64, 9), key("\xff", 0, 0), key(text(2000), 7, -7), key("zzzz", math.MaxUint64, math.MaxInt)} {
			tells(t, x, how, l, k)
		}
	}
}

// P10.3: what is gone through may be ended at any place, and gone through again.
func TestAllAndBackEndAnywhere(t *testing.T) {
	l := letters(0)
	x := made(t, small(0), l, nil)
	all, back := x.All(api.Key{Seq: 99}), x.Back(key("zz", 0, 0))
	for n := range len(l) + 1 {
		i := 0
		for y := range all {
			if i == n {
				break
			}
			if y != l[i] {
				t.Errorf("%d: %v, want %v", i, y, l[i])
			}
			i++
		}
		if i != n {
			t.Errorf("All ends at %d, want %d", i, n)
		}
		i = 0
		for y := range back {
			if i == n {
				break
			}
			if y != l[len(l)-1-i] {
				t.Errorf("%d: %v, want %v", i, y, l[len(l)-1-i])
			}
			i++
		}
		if i != n {
			t.Errorf("Back ends at %d, want %d", i, n)
		}
	}
	goes(t, "All, then", all, l)
	// Of two at once none knows of the other one.
	for y := range all {
		goes(t, "All within All", x.All(y.Key), l[slices.Index(l, y):])
	}
}

// P10.3: what lies over nothing is left out, the others are cut where others begin and end.
func TestTombstones(t *testing.T) {
	for _, how := range hows() {
		tombs := lying(how, []api.Tombstone{tomb("c", "g", 9), tomb("b", "b", 1), tomb("b", "a", 2), tomb("a", "e", 5), tomb("c", "g", 9)})
		want := []api.Tombstone{tomb("a", "c", 5), tomb("c", "e", 9), tomb("c", "e", 5), tomb("e", "g", 9)}
		if how == api.Reverse {
			want = []api.Tombstone{tomb("g", "e", 9), tomb("e", "c", 9), tomb("e", "c", 5), tomb("c", "a", 5)}
		}
		for _, l := range [][]api.Entry{nil, letters(how)} {
			x := made(t, small(how), l, tombs)
			if got := x.Tombstones(); !slices.Equal(got, want) || x.Props().Ranges != 4 {
				t.Errorf("%d: %v, want %v", how, got, want)
			}
		}
	}
	if l := made(t, small(0), letters(0), nil).Tombstones(); len(l) != 0 {
		t.Errorf("%v", l)
	}
}

// P10.3
func TestProps(t *testing.T) {
	o := small(0)
	for _, c := range []struct {
		what  string
		l     []api.Entry
		tombs []api.Tombstone
		want  api.Props
	}{
		{"nothing", nil, nil, api.Props{}},
		{"what lies over nothing", nil, []api.Tombstone{tomb("b", "a", 9)}, api.Props{}},
		{"a range", nil, []api.Tombstone{tomb("a", "b", 9)}, api.Props{Ranges: 1, First: 9, Last: 9}},
		{"a range at 0", nil, []api.Tombstone{tomb("a", "b", 0)}, api.Props{Ranges: 1}},
		{"an entry", []api.Entry{gone("a", 7)}, nil, api.Props{Entries: 1, Deletes: 1, Blocks: 1, Parts: 1, First: 7, Last: 7}},
		{"an entry at 0", []api.Entry{put("a", 7, ""), put("a", 0, "")}, nil, api.Props{Entries: 2, Blocks: 1, Parts: 1, Last: 7}},
		{"the greatest", []api.Entry{put("a", api.MaxSeq, "")}, []api.Tombstone{tomb("a", "b", api.MaxSeq-1)},
			api.Props{Entries: 1, Blocks: 1, Parts: 1, Ranges: 1, First: api.MaxSeq - 1, Last: api.MaxSeq}},
		{"letters", letters(0), []api.Tombstone{tomb("c", "zz", 3), tomb("d", "e", 30)},
			api.Props{Entries: 20, Deletes: 1, Blocks: 10, Parts: 5, Ranges: 4, First: 3, Last: 30}},
		{"letters, and ranges between", letters(0)[:5], []api.Tombstone{tomb("c", "zz", 7), tomb("e", "d", 1)},
			api.Props{Entries: 5, Deletes: 1, Blocks: 3, Parts: 2, Ranges: 1, First: 5, Last: 9}},
	} {
		c.want.Options = o
		if got := made(t, o, c.l, c.tombs).Props(); got != c.want {
			t.Errorf("%s: %v, want %v", c.what, got, c.want)
		}
	}
}

// P10.3: whatever the options.
func TestPropsAsTheModel(t *testing.T) {
	for seed := range uint64(400) {
		r := chance(seed)
		o := someOptions(r)
		l, tombs := someEntries(r, o.How, 40), someTombs(r, 6)
		p := planOf(o, l, pieces(t, o.How, tombs))
		want := p.props((len(p.data) + o.Part - 1) / o.Part)
		if got := made(t, o, l, tombs).Props(); got != want {
			t.Errorf("%v, want %v", got, want)
		}
	}
}

// P10.3: which key is the least, which the greatest: an entry's, or a range's.
func TestFile(t *testing.T) {
	end := func(user string) api.Key { return key(user, api.MaxSeq, api.RangeDelete) }
	entries := []api.Entry{put("c", 9, ""), gone("c", 5), put("g", 7, "")}
	for _, c := range []struct {
		what        string
		l           []api.Entry
		tombs       []api.Tombstone
		least, most api.Key
		ranges      uint64
	}{
		{"entries alone", entries, nil, entries[0].Key, entries[2].Key, 0},
		{"an entry alone", entries[1:2], nil, entries[1].Key, entries[1].Key, 0},
		{"ranges alone", nil, []api.Tombstone{tomb("a", "e", 5), tomb("c", "g", 9)}, key("a", 5, 2), end("g"), 4},
		{"ranges within", entries, []api.Tombstone{tomb("d", "e", 5)}, entries[0].Key, entries[2].Key, 1},
		{"ranges around", entries, []api.Tombstone{tomb("a", "z", 5)}, key("a", 5, 2), end("z"), 1},
		{"ranges ahead", entries, []api.Tombstone{tomb("a", "b", 5)}, key("a", 5, 2), entries[2].Key, 1},
		{"ranges behind", entries, []api.Tombstone{tomb("x", "y", 5)}, entries[0].Key, end("y"), 1},
		{"the same key, a lower number", entries, []api.Tombstone{tomb("c", "d", 8)}, entries[0].Key, entries[2].Key, 1},
		{"the same key and number", entries, []api.Tombstone{tomb("c", "d", 9)}, key("c", 9, 2), entries[2].Key, 1},
		{"the same key, a greater number", entries, []api.Tombstone{tomb("c", "d", 10), tomb("c", "d", 3)}, key("c", 10, 2), entries[2].Key, 2},
		{"up to the last key", entries, []api.Tombstone{tomb("d", "g", 10)}, entries[0].Key, entries[2].Key, 1},
		{"a little further", entries, []api.Tombstone{tomb("d", "g\x00", 10)}, entries[0].Key, end("g\x00"), 1},
	} {
		b := built(t, small(0), c.l, c.tombs)
		x := opened(t, 0, b)
		for _, number := range []uint64{0, 7, math.MaxUint64} {
			want := api.File{Number: number, Size: uint64(len(b)), Smallest: c.least, Largest: c.most, Entries: uint64(len(c.l)), Ranges: c.ranges}
			if got, is := x.File(number); !is || got != want {
				t.Errorf("%s: File(%d) = %v, %t, want %v", c.what, number, got, is, want)
			}
		}
	}
	for _, tombs := range [][]api.Tombstone{nil, {tomb("b", "a", 9), tomb("a", "a", 3)}} {
		if got, is := made(t, small(0), nil, tombs).File(7); is || got != (api.File{}) {
			t.Errorf("of nothing: %v, %t", got, is)
		}
	}
}

// P10.3: by the chapter's words, of all keys one by one.
func TestFileAsTheModel(t *testing.T) {
	for seed := range uint64(600) {
		r := chance(seed)
		o := someOptions(r)
		l, tombs := someEntries(r, o.How, 12), someTombs(r, 4)
		b := built(t, o, l, tombs)
		var low, high []api.Key
		for _, y := range l {
			low, high = append(low, y.Key), append(high, y.Key)
		}
		ranges := pieces(t, o.How, tombs)
		for _, y := range ranges {
			low, high = append(low, key(y.Begin, y.Seq, 2)), append(high, key(y.End, api.MaxSeq, 2))
		}
		want := api.File{}
		if len(low) > 0 {
			order := func(a, b api.Key) int { return codec.Order(o.How, a, b) }
			want = api.File{Number: seed, Size: uint64(len(b)), Smallest: slices.MinFunc(low, order), Largest: slices.MaxFunc(high, order), Entries: uint64(len(l)), Ranges: uint64(len(ranges))}
		}
		if got, is := opened(t, o.How, b).File(seed); got != want || is != (len(low) > 0) {
			t.Errorf("%v, %t, want %v", got, is, want)
		}
	}
}

// P10.3: units lie one behind the other, the foot last; each has its sort, and its sum.
func TestUnits(t *testing.T) {
	for _, bits := range []int{0, 10} {
		o := small(0)
		o.Bits = bits
		b := built(t, o, letters(0), []api.Tombstone{tomb("c", "d", 1)})
		units := opened(t, 0, b).Units()
		place, sorts := 0, ""
		for _, u := range units[:len(units)-1] {
			if u[0] != place {
				t.Errorf("%v: a unit begins at %d, want %d", o, u[0], place)
			}
			place += u[1]
			all := b[u[0] : u[0]+u[1]]
			if sum, _ := codec.ReadFixed32(all[len(all)-4:]); sum != codec.Mask(codec.Sum(all[:len(all)-4])) {
				t.Errorf("%v: the unit at %d has another sum", o, u[0])
			}
			sorts += fmt.Sprint(all[len(all)-5])
		}
		if last := units[len(units)-1]; last != [2]int{place, 36} || place+36 != len(b) {
			t.Errorf("%v: the foot is %v of %d bytes", o, last, len(b))
		}
		want := map[int]string{0: "0000000000" + "22222" + "345", 10: "0000000000" + "1212121212" + "345"}[bits]
		if sorts != want {
			t.Errorf("%v: sorts %s, want %s", o, sorts, want)
		}
	}
}

// P10.3: the chapter's example 1.
func TestUnitsOfNothing(t *testing.T) {
	b := built(t, small(0), nil, nil)
	x := opened(t, 0, b)
	n := len(b) - 36 - 2*13
	if got, want := x.Units(), [][2]int{{0, 13}, {13, n}, {13 + n, 13}, {len(b) - 36, 36}}; !slices.Equal(got, want) {
		t.Errorf("%v, want %v", got, want)
	}
	if _, is := x.Get("", math.MaxUint64); is || x.May("") || len(x.Tombstones()) != 0 {
		t.Error("an empty table tells something")
	}
	goes(t, "All", x.All(api.Key{Seq: math.MaxUint64}), nil)
	goes(t, "Back", x.Back(key("\xff", 0, 0)), nil)
}

// Answers are new memory, their spare room too.
func TestAnswersAreNew(t *testing.T) {
	tombs := []api.Tombstone{tomb("a", "b", 1), tomb("c", "d", 2), tomb("e", "f", 3)}
	x := made(t, small(0), letters(0), tombs)
	one, units := x.Tombstones(), x.Units()
	wasUnits := slices.Clone(units)
	other, otherUnits := x.Tombstones(), x.Units()
	clear(one[:cap(one)])
	clear(units[:cap(units)])
	if !slices.Equal(other, tombs) || !slices.Equal(x.Tombstones(), tombs) {
		t.Errorf("%v, %v", other, x.Tombstones())
	}
	if !slices.Equal(otherUnits, wasUnits) || !slices.Equal(x.Units(), wasUnits) {
		t.Errorf("%v, %v", otherUnits, x.Units())
	}
}
