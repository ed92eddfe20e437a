package sstable_test

import (
	"bytes"
	"fmt"
	"math"
	"slices"
	"strings"
	"testing"

	"sediment/api"
	"sediment/codec"
	"sediment/sstable"
)

// base is the plan of a table with all sorts of units, several of each that can be there several times.
func base(t *testing.T, how int) plan {
	t.Helper()
	tombs := lying(how, []api.Tombstone{tomb("c", "zz", 3), tomb("b", "e", 40), tomb("f", "g", 7)})
	return planOf(small(how), letters(how), pieces(t, how, tombs))
}

// P10.2: comparators that are none, whatever the bytes; one that is not the table's.
func TestOpenOfComparators(t *testing.T) {
	for _, how := range hows() {
		for _, b := range [][]byte{base(t, how).bytes(), planOf(small(how), nil, nil).bytes()} {
			for _, wrong := range wrongHows() {
				opens(t, "no comparator", wrong, b, api.ErrArg)
				opens(t, "no comparator", wrong, nil, api.ErrArg)
			}
			opens(t, "its own", how, b, api.OK)
			opens(t, "the other one", 1-how, b, api.ErrCorrupt)
		}
	}
}

// P10.2: bytes that are far from a table.
func TestOpenOfNoTable(t *testing.T) {
	for n := range 80 {
		opens(t, "noughts", 0, make([]byte, n), api.ErrCorrupt)
		opens(t, "noughts and the last bytes", 0, append(make([]byte, n), "SEDIMENT"...), api.ErrCorrupt)
	}
	opens(t, "nothing", 0, nil, api.ErrCorrupt)
	foot := make([]byte, 24)
	opens(t, "a foot alone", 0, append(sealed(foot, 0), "SEDIMENT"...), api.ErrCorrupt)
	opens(t, "too many bytes", 0, make([]byte, 1<<22+1), api.ErrCorrupt)
}

// P10.2: more ahead of a table, or behind it.
func TestOpenOfMoreThanATable(t *testing.T) {
	b := base(t, 0).bytes()
	opens(t, "the table", 0, b, api.OK)
	opens(t, "a byte behind", 0, append(slices.Clone(b), 0), api.ErrCorrupt)
	opens(t, "a byte ahead", 0, append([]byte{0}, b...), api.ErrCorrupt)
	opens(t, "twice", 0, append(slices.Clone(b), b...), api.ErrCorrupt)
}

// P10.2: of each sort a unit with a wrong sum, another sort, something ahead of it, said to be elsewhere, or with a byte more.
func TestOpenOfUnits(t *testing.T) {
	for _, how := range hows() {
		p := base(t, how)
		for sort := range byte(6) {
			for number := range 2 {
				at := func(do func(*unit)) func(*unit) {
					return func(u *unit) {
						if u.sort == sort && (u.number == number || sort > 2) {
							do(u)
						}
					}
				}
				what := fmt.Sprintf("%d: sort %d, %d: ", how, sort, number)
				forged(t, what+"sum", p, at(func(u *unit) { u.seal = 1 }))
				forged(t, what+"another sort", p, at(func(u *unit) { u.sort = 6 }))
				forged(t, what+"the next sort", p, at(func(u *unit) { u.sort = (u.sort + 1) % 6 }))
				forged(t, what+"ahead", p, at(func(u *unit) { u.ahead = "\x00" }))
				forged(t, what+"further on", p, at(func(u *unit) { u.place = 1 }))
				forged(t, what+"further back", p, at(func(u *unit) { u.place = math.MaxUint32 }))
				forged(t, what+"far away", p, at(func(u *unit) { u.place = 1 << 31 }))
				forged(t, what+"a byte ahead", p, at(func(u *unit) { u.bytes = append([]byte{0}, content(u)...) }))
				forged(t, what+"a byte behind", p, at(func(u *unit) { u.bytes = append(content(u), 0) }))
				forged(t, what+"a byte less", p, at(func(u *unit) { u.bytes = content(u)[1:] }))
				forged(t, what+"nothing", p, at(func(u *unit) { u.bytes = []byte{} }))
			}
		}
	}
}

// content is the bytes of a unit that is not changed.
func content(u *unit) []byte {
	if u.bytes != nil {
		return slices.Clone(u.bytes)
	}
	return blockBytes(u.restart, u.entries)
}

// P10.2: blocks that could be, but not with these options.
func TestOpenOfBlocks(t *testing.T) {
	p := base(t, 0)
	for sort := range byte(6) {
		if sort == 1 {
			continue
		}
		what := fmt.Sprintf("sort %d: ", sort)
		at := func(do func(*unit)) func(*unit) {
			return func(u *unit) {
				if u.sort == sort && u.number == 0 {
					do(u)
				}
			}
		}
		forged(t, what+"restart", p, at(func(u *unit) { u.restart = 3 - u.restart }))
		forged(t, what+"an entry less", p, at(func(u *unit) { u.entries = u.entries[1:] }))
		forged(t, what+"the last entry less", p, at(func(u *unit) { u.entries = u.entries[:len(u.entries)-1] }))
		forged(t, what+"no entries", p, at(func(u *unit) { u.entries = nil }))
		forged(t, what+"an entry twice", p, at(func(u *unit) { u.entries = append(slices.Clone(u.entries), u.entries[0]) }))
		forged(t, what+"one more", p, at(func(u *unit) { u.entries = append(slices.Clone(u.entries), put("zz", 0, "\x00\x08\x00\x00")) }))
		forged(t, what+"another kind", p, at(func(u *unit) { u.entries = changed(u.entries, 0, func(x *api.Entry) { x.Kind = (x.Kind + 1) % 3 }) }))
		if sort == 0 {
			continue // other values and numbers are those of another table
		}
		forged(t, what+"another value", p, at(func(u *unit) { u.entries = changed(u.entries, 0, func(x *api.Entry) { x.Value += "\x00" }) }))
		forged(t, what+"another number", p, at(func(u *unit) { u.entries = changed(u.entries, 0, func(x *api.Entry) { x.Seq++ }) }))
	}
}

// changed is entries of which one was changed.
func changed(l []api.Entry, i int, change func(*api.Entry)) []api.Entry {
	l = slices.Clone(l)
	change(&l[i])
	return l
}

// P10.2: keys of which less is said to be in common than could be.
func TestOpenOfKeysThatAreNotShortened(t *testing.T) {
	o := great(0)
	l := []api.Entry{put("aaa", 1, ""), put("aab", 1, "")}
	whole := blockBytes(1, l)
	b := append(slices.Clone(whole[:len(whole)-12]), "\x00\x00\x00\x00\x01\x00\x00\x00"...)
	forged(t, "a whole key", planOf(o, l, nil), func(u *unit) {
		if u.sort == 0 {
			u.bytes = b
		}
	})
}

// P10.2: each property missing, in more bytes, with something behind it, or with something else in its place.
func TestOpenOfProperties(t *testing.T) {
	for _, how := range hows() {
		for _, p := range []plan{base(t, how), planOf(small(how), nil, nil), planOf(small(how), letters(how)[:1], nil)} {
			for i := range 12 {
				at := func(do func([]api.Entry) []api.Entry) func(*unit) {
					return func(u *unit) {
						if u.sort == 4 {
							u.entries = do(slices.Clone(u.entries))
						}
					}
				}
				value := func(do func(string) string) func(*unit) {
					return at(func(l []api.Entry) []api.Entry { l[i].Value = do(l[i].Value); return l })
				}
				what := fmt.Sprintf("%d: property %d: ", how, i)
				forged(t, what+"missing", p, at(func(l []api.Entry) []api.Entry { return slices.Delete(l, i, i+1) }))
				forged(t, what+"a further one", p, at(func(l []api.Entry) []api.Entry {
					return slices.Insert(l, i+1, put(l[i].User+"\x00", 0, "\x01"))
				}))
				forged(t, what+"with a number", p, at(func(l []api.Entry) []api.Entry { l[i].Seq = 1; return l }))
				forged(t, what+"deleted", p, at(func(l []api.Entry) []api.Entry { l[i].Kind = api.Delete; return l }))
				forged(t, what+"empty", p, value(func(string) string { return "" }))
				forged(t, what+"behind", p, value(func(v string) string { return v + "\x00" }))
				forged(t, what+"open", p, value(func(string) string { return "\xff" }))
				forged(t, what+"longer", p, value(func(v string) string { return "\x80\x00" }))
			}
		}
	}
}

// P10.2: each property with another number: it is a table just if it is that of other options.
func TestOpenOfOtherNumbers(t *testing.T) {
	for _, how := range hows() {
		for _, p := range []plan{base(t, how), planOf(small(how), nil, nil), planOf(small(how), letters(how)[:1], nil)} {
			for i := range 12 {
				for _, by := range []uint64{1, math.MaxUint64, 1 << 62, 1 << 22, 1 << 32, 1 << 63} {
					otherNumber(t, p, i, by)
				}
			}
		}
	}
}

// otherNumber opens a table one of whose properties has by more than it should.
func otherNumber(t *testing.T, p plan, i int, by uint64) {
	t.Helper()
	said := uint64(0)
	p.change = func(u *unit) {
		if u.sort == 4 {
			n, _, _ := codec.ReadVarint([]byte(u.entries[i].Value))
			said = n + by
			u.entries = changed(u.entries, i, func(x *api.Entry) { x.Value = string(codec.Varint(said)) })
		}
	}
	b, want := p.bytes(), api.ErrCorrupt
	o := p.options
	if at := map[int]*int{0: &o.Bits, 1: &o.Block, 6: &o.How, 8: &o.Part, 11: &o.Restart}[i]; at != nil {
		*at = int(said)
		same := o.How == p.options.How && sstable.Check(o) == api.OK
		if same && bytes.Equal(p.again(o).bytes(), b) {
			want = api.OK
		}
	}
	opens(t, fmt.Sprintf("%v: property %d is %d", p.options, i, said), p.options.How, b, want)
}

// P10.2: options that can't be, but of which all else is laid out as if they could.
func TestOpenOfOptionsThatCantBe(t *testing.T) {
	l := letters(0)
	for _, o := range []api.TableOptions{
		{Block: 0, Restart: 2, Part: 2},
		{Block: 1<<20 + 1, Restart: 2, Part: 2},
		{Block: 30, Restart: 1025, Part: 2},
		{Block: 30, Restart: 2, Part: 1025},
		{How: 2, Block: 30, Restart: 2, Part: 2},
	} {
		opens(t, fmt.Sprint(o), 0, planOf(o, l, nil).bytes(), api.ErrCorrupt)
		opens(t, fmt.Sprint(o), 0, planOf(o, nil, nil).bytes(), api.ErrCorrupt)
	}
	for _, o := range []api.TableOptions{
		{Block: 30, Restart: 2, Part: 0},
		{Block: 30, Restart: 0, Part: 2},
		{Block: 30, Restart: 2, Part: 2, Bits: 65},
	} {
		opens(t, fmt.Sprint(o), 0, planOf(o, nil, nil).bytes(), api.ErrCorrupt)
	}
}

// P10.2: blocks and parts that are cut elsewhere.
func TestOpenOfOtherCuts(t *testing.T) {
	p := base(t, 0)
	joined := slices.Concat([][]api.Entry{slices.Concat(p.data[0], p.data[1])}, p.data[2:])
	split := slices.Concat([][]api.Entry{p.data[0][:1], p.data[0][1:]}, p.data[1:])
	last := p.data[len(p.data)-1]
	end := slices.Concat(p.data[:len(p.data)-1], [][]api.Entry{last[:1], last[1:]})
	for i, data := range [][][]api.Entry{joined, split, end} {
		q := p
		q.data = data
		opens(t, fmt.Sprint("blocks that are cut elsewhere: ", i), 0, q.bytes(), api.ErrCorrupt)
	}
	for _, part := range []int{1, 3, 1024} {
		q := p
		q.options.Part = part
		forged(t, "parts that are cut elsewhere", q, func(u *unit) {
			if u.sort == 4 {
				u.entries = changed(u.entries, 8, func(x *api.Entry) { x.Value = "\x02" })
			}
		})
	}
}

// P10.2: filters that are not those of the keys.
func TestOpenOfFilters(t *testing.T) {
	for i, change := range []func([]byte) []byte{
		func(b []byte) []byte { b[0] ^= 1; return b },
		func(b []byte) []byte { b[len(b)-2] ^= 128; return b },
		func(b []byte) []byte { b[len(b)-1]++; return b },
		func(b []byte) []byte { b[len(b)-1] = 31; return b },
		func(b []byte) []byte { return append([]byte{0}, b...) },
		func(b []byte) []byte { return make([]byte, len(b)) },
	} {
		forged(t, fmt.Sprint("a filter: ", i), base(t, 0), func(u *unit) {
			if u.sort == 1 && u.number == 1 {
				u.bytes = change(slices.Clone(u.bytes))
			}
		})
	}
	// Without filters the top still speaks of them, as of none.
	o := small(0)
	o.Bits = 0
	for _, value := range []string{"\x00\x01", "\x01\x00", "", "\x00", "\x00\x00\x00"} {
		forged(t, "a filter that is none", planOf(o, letters(0)[:2], nil), func(u *unit) {
			if u.sort == 5 {
				u.entries = changed(u.entries, 0, func(x *api.Entry) { x.Value = x.Value[:2] + value })
			}
		})
	}
}

// P10.2: indexes whose keys or handles are others.
func TestOpenOfIndexes(t *testing.T) {
	for _, sort := range []byte{2, 5} {
		for i, change := range []func(*api.Entry){
			func(x *api.Entry) { x.User += "\x00" },
			func(x *api.Entry) { x.Seq-- },
			func(x *api.Entry) { x.Kind = 2 },
			func(x *api.Entry) { x.Value += "\x00" },
			func(x *api.Entry) { x.Value = "" },
			func(x *api.Entry) { x.Value = x.Value[:1] },
			func(x *api.Entry) { x.Value = x.Value[1:] },
			func(x *api.Entry) { x.Value = "\x80\x80\x80\x80\x10" + x.Value[1:] },
			func(x *api.Entry) { x.Value = "\xff\xff\xff\xff\xff\xff\xff\xff\xff\x01" + x.Value },
			func(x *api.Entry) { x.Value = string(append([]byte{x.Value[0] + 128, 0}, x.Value[1:]...)) },
		} {
			for _, number := range []int{0, 1} {
				forged(t, fmt.Sprintf("sort %d, change %d", sort, i), base(t, 0), func(u *unit) {
					if u.sort == sort && u.number == 0 {
						u.entries = changed(u.entries, number, change)
					}
				})
			}
		}
	}
}

// P10.2: an index, or a top, all of whose entries speak of the same unit: nobody reads that as often as it is said.
func TestOpenOfOneUnitManyTimes(t *testing.T) {
	var l []api.Entry
	for i := range 20000 {
		l = append(l, put(name(i), 1, ""))
	}
	for _, part := range []int{1, 1024} {
		p := planOf(api.TableOptions{Block: 1, Restart: 1, Part: part, Bits: 10}, l, nil)
		for _, sorts := range []string{"\x05", "\x02", "\x02\x05"} {
			first := ""
			forged(t, "one of them", p, func(u *unit) {
				if !strings.Contains(sorts, string(rune(u.sort))) {
					return
				}
				if u.number == 0 {
					first = u.entries[0].Value
				}
				u.entries = slices.Clone(u.entries)
				for i := range u.entries {
					u.entries[i].Value = first
				}
			})
		}
	}
}

// P10.2: a top that speaks of one index very often, which speaks of one block of no entries very often.
func TestOpenOfNothingManyTimes(t *testing.T) {
	for _, bits := range []int{0, 10} {
		o := small(0)
		o.Bits = bits
		forged(t, "nothing, many times", planOf(o, letters(0)[:1], nil), func(u *unit) {
			switch u.sort {
			case 0:
				u.entries = nil
			case 2, 5:
				value := u.entries[0].Value
				u.entries = nil
				for i := range uint64(60000) {
					u.entries = append(u.entries, put("a", 60000-i, value))
				}
			}
		})
	}
}

// P10.2: entries that Build would not take.
func TestOpenOfEntriesThatCantBe(t *testing.T) {
	a, b := put("a", 5, ""), put("b", 5, "")
	o := api.TableOptions{Block: 1, Restart: 1, Part: 8, Bits: 10}
	opens(t, "that can be", 0, planOf(o, []api.Entry{a, b}, nil).bytes(), api.OK)
	for i, l := range [][]api.Entry{
		{b, a}, {a, a}, {a, put("a", 6, "")}, {gone("a", 5), a}, {a, b, a},
		{entry("a", 5, 2, "b")}, {a, entry("b", 5, 2, "c")},
		{put("a", 5, text(16385))}, {put(text(1025), 5, "")}, {entry("a", 5, 3, "")},
	} {
		for _, block := range []int{1, 4096} {
			o.Block = block
			opens(t, fmt.Sprint("entries ", i), 0, planOf(o, l, nil).bytes(), api.ErrCorrupt)
		}
		// As one part, or each block one of its own: so the index, or the top, has them in their order.
		o.Part = 9 - o.Part
	}
}

// P10.2: more entries than there may be, in few bytes.
func TestOpenOfManyEntries(t *testing.T) {
	l := make([]api.Entry, 65537)
	for i := range l {
		l[i] = put("", uint64(len(l)-i), "")
	}
	for _, how := range hows() {
		o := api.TableOptions{How: how, Block: 1000, Restart: 16, Part: 100}
		opens(t, "as many as there may be", how, planOf(o, l[1:], nil).bytes(), api.OK)
		opens(t, "one more", how, planOf(o, l, nil).bytes(), api.ErrCorrupt)
	}
}

// P10.2: ranges that are no fragments' tombstones.
func TestOpenOfRanges(t *testing.T) {
	for i, l := range [][]api.Tombstone{
		{tomb("a", "a", 1)},
		{tomb("b", "a", 1)},
		{tomb("a", "b", 1), tomb("a", "b", 1)},
		{tomb("a", "b", 1), tomb("a", "b", 2)},
		{tomb("a", "c", 2), tomb("a", "b", 1)},
		{tomb("a", "b", 2), tomb("a", "c", 1)},
		{tomb("a", "c", 2), tomb("b", "c", 1)},
		{tomb("a", "c", 2), tomb("b", "d", 2)},
		{tomb("a", text(1025), 2)},
	} {
		opens(t, fmt.Sprint("ranges ", i), 0, planOf(small(0), nil, l).bytes(), api.ErrCorrupt)
		opens(t, fmt.Sprint("ranges ", i, ", the other way"), 1, planOf(small(1), nil, turned(l)).bytes(), api.ErrCorrupt)
	}
	falling := []api.Tombstone{tomb("b", "c", 2), tomb("a", "b", 2)}
	opens(t, "ranges that fall", 0, planOf(small(0), nil, falling).bytes(), api.ErrCorrupt)
	slices.Reverse(falling)
	opens(t, "ranges that fall the other way", 1, planOf(small(1), nil, turned(falling)).bytes(), api.ErrCorrupt)
	for _, kind := range []int{api.Put, api.Delete} {
		p := planOf(small(0), nil, []api.Tombstone{tomb("a", "b", 1)})
		p.ranges[0].Kind = kind
		opens(t, "no RangeDelete", 0, p.bytes(), api.ErrCorrupt)
	}
}

// P10.2: fragments that can be are more than Build's tombstones may be: as many as can be, and one more.
func TestOpenOfManyFragments(t *testing.T) {
	var l []api.Tombstone
	for i := range 2049 {
		l = append(l, tomb(name(2*i), name(2*i+1), uint64(i)))
	}
	for _, tombs := range [][]api.Tombstone{l[:1024], l[:1025], l[:2048]} {
		b := planOf(small(0), letters(0), tombs).bytes()
		x := opened(t, 0, b)
		if got := x.Tombstones(); !slices.Equal(got, tombs) || x.Props().Ranges != len(tombs) {
			t.Errorf("%d tombstones, want %d", len(got), len(tombs))
		}
		if len(tombs) > 1024 {
			refuses(t, "more than there may be", small(0), letters(0), tombs, api.ErrLong)
		} else if !bytes.Equal(built(t, small(0), letters(0), tombs), b) {
			t.Error("Build of as many as there may be is another table")
		}
	}
	opens(t, "one more", 0, planOf(small(0), letters(0), l).bytes(), api.ErrCorrupt)
	// Next to each other, with the same numbers: they stay apart.
	apart := []api.Tombstone{tomb("a", "b", 2), tomb("a", "b", 1), tomb("b", "c", 2), tomb("b", "c", 1)}
	if got := opened(t, 0, planOf(small(0), nil, apart).bytes()).Tombstones(); !slices.Equal(got, apart) {
		t.Errorf("%v, want %v", got, apart)
	}
}

// P10.2: feet that speak of other units, or of none.
func TestOpenOfFeet(t *testing.T) {
	for i, change := range []func([]byte) []byte{
		func(b []byte) []byte { return slices.Concat(b[8:16], b[:8], b[16:]) },
		func(b []byte) []byte { return slices.Concat(b[:8], b[16:], b[8:16]) },
		func(b []byte) []byte { return slices.Concat(b[16:], b[8:16], b[:8]) },
		func(b []byte) []byte { return slices.Repeat(b[:8], 3) },
		func(b []byte) []byte { return slices.Repeat(b[8:16], 3) },
		func(b []byte) []byte { return slices.Repeat(b[16:], 3) },
		func(b []byte) []byte { return make([]byte, 24) },
		func(b []byte) []byte { return slices.Repeat([]byte{255}, 24) },
		func(b []byte) []byte { return append(b, 0) },
		func(b []byte) []byte { return b[1:] },
	} {
		p := base(t, 0)
		p.foot = change
		opens(t, fmt.Sprint("foot ", i), 0, p.bytes(), api.ErrCorrupt)
	}
	for at := range 6 {
		for _, by := range []uint32{1, 5, math.MaxUint32, 1 << 22, 1 << 31} {
			p := base(t, 0)
			p.foot = func(b []byte) []byte {
				n, _ := codec.ReadFixed32(b[4*at:])
				return slices.Concat(b[:4*at], codec.Fixed32(n+by), b[4*at+4:])
			}
			opens(t, fmt.Sprint("foot with another number ", at), 0, p.bytes(), api.ErrCorrupt)
		}
	}
	for _, magic := range []string{"", "SEDIMENu", "sEDIMENT", "SEDIMEN", "SEDIMENTS", "TNEMIDES"} {
		p := base(t, 0)
		p.magic = magic
		opens(t, magic, 0, p.bytes(), api.ErrCorrupt)
	}
}

// P10.2: whatever the bytes: pieces of tables in any order, bytes that are any. It ends, and tells ErrCorrupt.
func TestOpenOfAnyBytes(t *testing.T) {
	for seed := range uint64(3000) {
		r := chance(seed)
		how := r.IntN(2)
		b := base(t, how).bytes()
		for range 1 + r.IntN(3) {
			switch i, n := r.IntN(len(b)), r.IntN(40); r.IntN(4) {
			case 0:
				b[i] = byte(r.IntN(256))
			case 1:
				b = slices.Delete(b, i, min(i+n, len(b)))
			case 2:
				b = slices.Insert(b, i, slices.Clone(b[i:min(i+n, len(b))])...)
			case 3:
				copy(b[i:], b[r.IntN(len(b)):])
			}
		}
		want := api.ErrCorrupt
		if bytes.Equal(b, base(t, how).bytes()) {
			want = api.OK
		}
		opens(t, fmt.Sprint("seed ", seed), how, b, want)
	}
}

// What is handed in is not changed, its spare room neither, and not kept.
func TestOpenKeepsNothing(t *testing.T) {
	p := base(t, 0)
	b := append(make([]byte, 0, 4000), p.bytes()...)
	was := slices.Clone(b[:cap(b)])
	x := opened(t, 0, b)
	if !bytes.Equal(b[:cap(b)], was) {
		t.Error("Open changed what it was handed")
	}
	clear(b[:cap(b)])
	if !slices.Equal(everything(0, x), letters(0)) || x.Tombstones()[0] != tomb("b", "c", 40) || !x.May("a") || x.May("zzz") {
		t.Error("what was opened changed with the bytes")
	}
	if _, e := sstable.Open(0, b); e != api.ErrCorrupt {
		t.Error(e)
	}
}
