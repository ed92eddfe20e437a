package sstable_test

import (
	"bytes"
	"encoding/hex"
	"math"
	"slices"
	"testing"

	"sediment/api"
	"sediment/sstable"
)

// P10.1: the least and the greatest that each option can be, and what lies beyond.
func TestCheck(t *testing.T) {
	for i, limit := range [][2]int{{0, 1}, {1, 1 << 20}, {1, 1024}, {1, 1024}, {0, 64}} {
		for _, c := range []struct {
			n    int
			want api.Errno
		}{
			{limit[0], api.OK}, {limit[1], api.OK}, {(limit[0] + limit[1]) / 2, api.OK},
			{limit[0] - 1, api.ErrArg}, {limit[1] + 1, api.ErrArg}, {math.MinInt, api.ErrArg}, {math.MaxInt, api.ErrArg},
		} {
			o := small(api.Bytewise)
			*[]*int{&o.How, &o.Block, &o.Restart, &o.Part, &o.Bits}[i] = c.n
			if e := sstable.Check(o); e != c.want {
				t.Errorf("Check(%v) = %d, want %d", o, e, c.want)
			}
			if b, e := sstable.Build(o, nil, nil); e != c.want || (len(b) > 0) != (e == api.OK) {
				t.Errorf("Build(%v): %d bytes, %d, want %d", o, len(b), e, c.want)
			}
		}
	}
	if e := sstable.Check(api.TableOptions{}); e != api.ErrArg {
		t.Errorf("Check of no options: %d", e)
	}
}

// P10.1: tables that were worked out elsewhere. (The first one is the chapter's example 1.)
func TestBuildKnown(t *testing.T) {
	for _, c := range []struct {
		o     api.TableOptions
		l     []api.Entry
		tombs []api.Tombstone
		want  string
	}{
		{
			small(api.Bytewise), nil, nil,
			"000000000100000003210c7a8c000c016269747301000000000000000a000d01626c6f636b01000000000000001e000e01626c6f636b730100000000" +
				"00000000000f0164656c65746573010000000000000000000f01656e7472696573010000000000000000000d01666972737401000000000000000000" +
				"0b01686f77010000000000000000000c016c617374010000000000000000000c0170617274010000000000000002000d017061727473010000000000" +
				"000000000e0172616e676573010000000000000000000f01726573746172740100000000000000020000000010000000210000003300000046000000" +
				"590000006a000000790000008900000099000000aa000000bc0000000c0000000474116ec9000000000100000005e256aac800000000080000000d00" +
				"0000030100001501000008000000054b8bd9534544494d454e54",
		},
		{
			api.TableOptions{How: api.Bytewise, Block: 4096, Restart: 16, Part: 8, Bits: 10},
			[]api.Entry{put("a", 9, "x"), put("ab", 9, "y"), gone("b", 7)},
			[]api.Tombstone{tomb("a", "e", 5), tomb("e", "a", 1), tomb("c", "e", 9)},
			"000901610109000000000000780109016201090000000000007900090062000700000000000000000000010000000007ef22b9600670848528408906" +
				"0161fe9372000902620007000000000000002e0000000001000000029eebf51900090161020500000000000063000901630209000000000000650009" +
				"0163020500000000000065000000000d0000001a0000000300000003ff382a3c000c016269747301000000000000000a000d02626c6f636b01000000" +
				"000000008020000e01626c6f636b73010000000000000001000f0164656c65746573010000000000000001000f01656e747269657301000000000000" +
				"0003000d016669727374010000000000000005000b01686f77010000000000000000000c016c617374010000000000000009000c0170617274010000" +
				"000000000008000d017061727473010000000000000001000e0172616e676573010000000000000003000f0172657374617274010000000000000010" +
				"00000000100000002200000034000000470000005a0000006b0000007a0000008a0000009a000000ab000000bd0000000c000000040eb7cd2b000904" +
				"62000700000000000041163309000000000100000005b24bad1e5c000000370000009800000004010000a101000018000000b2893714534544494d45" +
				"4e54",
		},
		{
			api.TableOptions{How: api.Reverse, Block: 30, Restart: 2, Part: 2},
			[]api.Entry{put("e", 9, "x"), put("d", 300, "y"), gone("d", 7), put("c", 7, "zz"), put("", 0, "")},
			[]api.Tombstone{tomb("z", "b", 1)},
			"0009016501090000000000007800090164012c01000000000079000000000100000000ae6f7ec3000900640007000000000000000902630107000000" +
				"0000007a7a000000000100000000bfd7a83e000800010000000000000000000000010000000046ec020200090264012c010000000000002200090263" +
				"01070000000000002722000000000e00000002000000029794a49000080201000000000000004e1300000000010000000204328d2b0009017a020100" +
				"00000000006200000000010000000387f3baf8000c0162697473010000000000000000000d01626c6f636b01000000000000001e000e01626c6f636b" +
				"73010000000000000003000f0164656c65746573010000000000000001000f01656e7472696573010000000000000005000d01666972737401000000" +
				"0000000000000b01686f77010000000000000001000c026c6173740100000000000000ac02000c0170617274010000000000000002000d0170617274" +
				"73010000000000000002000e0172616e676573010000000000000001000f017265737461727401000000000000000200000000100000002100000033" +
				"00000046000000590000006a000000790000008a0000009a000000ab000000bd0000000c000000043fead69700090463010700000000000066280000" +
				"00080501000000000000009301150000000000001000000002000000052c984811ad00000015000000c700000004010000d00100002c000000398811" +
				"be534544494d454e54",
		},
	} {
		if b := built(t, c.o, c.l, c.tombs); hex.EncodeToString(b) != c.want {
			t.Errorf("Build(%v, %v, %v):\n%x, want\n%s", c.o, c.l, c.tombs, b, c.want)
		}
	}
}

// P10.1: whatever the options.
func TestBuildAsTheModel(t *testing.T) {
	for seed := range uint64(1500) {
		r := chance(seed)
		o := someOptions(r)
		l, tombs := someEntries(r, o.How, 40), someTombs(r, 6)
		want := planOf(o, l, pieces(t, o.How, tombs)).bytes()
		if b := built(t, o, l, tombs); !bytes.Equal(b, want) {
			t.Fatalf("Build(%v, %v, %v):\n%x, want\n%x", o, l, tombs, b, want)
		}
	}
}

// P10.1: a block ends behind the entry with which it has as many bytes as are asked for, whichever that is: a whole one or not.
func TestBuildCutsBlocks(t *testing.T) {
	var l []api.Entry
	for i := range 12 {
		l = append(l, put(name(i), 1, text(i)))
	}
	for _, restart := range []int{1, 2, 3, 16} {
		for block := 1; block < 400; block++ {
			o := api.TableOptions{Block: block, Restart: restart, Part: 3}
			p := planOf(o, l, nil)
			x := made(t, o, l, nil)
			if n := x.Props().Blocks; n != len(p.data) {
				t.Errorf("Block %d, Restart %d: %d blocks, want %d", block, restart, n, len(p.data))
			}
			if n, want := x.Units()[0][1], len(blockBytes(restart, p.data[0]))+5; n != want {
				t.Errorf("Block %d, Restart %d: the first one has %d bytes, want %d", block, restart, n, want)
			}
		}
	}
}

// P10.1: the errors, in their order.
func TestBuildRefuses(t *testing.T) {
	wrongHow := small(2)
	many := slices.Repeat([]api.Entry{put(text(1025), 0, "")}, 65537)
	over := []api.Tombstone{tomb("a", "b", api.MaxSeq+1)}
	ok := put("a", 5, "")
	for _, c := range []struct {
		what  string
		o     api.TableOptions
		l     []api.Entry
		tombs []api.Tombstone
		want  api.Errno
	}{
		{"options ahead of all", wrongHow, many, over, api.ErrArg},
		{"too many entries ahead of these", small(0), many, over, api.ErrLong},
		{"a key that is too long", small(0), []api.Entry{put(text(1025), api.MaxSeq+1, text(16385))}, over, api.ErrLong},
		{"a number that is too great", small(0), []api.Entry{entry("a", api.MaxSeq+1, 2, text(16385))}, over, api.ErrArg},
		{"a kind that is none", small(0), []api.Entry{entry("a", 1, 3, text(16385))}, over, api.ErrArg},
		{"a kind below all", small(0), []api.Entry{entry("a", 1, -1, "")}, nil, api.ErrArg},
		{"a RangeDelete", small(0), []api.Entry{entry("a", 1, 2, "b")}, nil, api.ErrArg},
		{"a RangeDelete ahead of its value", small(0), []api.Entry{entry("a", 1, 2, text(16385))}, nil, api.ErrArg},
		{"a value that is too long", small(0), []api.Entry{put("a", 1, text(16385))}, over, api.ErrLong},
		{"a value ahead of the order", small(0), []api.Entry{ok, put("a", 6, text(16385))}, nil, api.ErrLong},
		{"the same key", small(0), []api.Entry{ok, ok}, nil, api.ErrArg},
		{"a key ahead", small(0), []api.Entry{put("b", 5, ""), ok}, nil, api.ErrArg},
		{"a key ahead, Reverse", small(1), []api.Entry{ok, put("b", 5, "")}, nil, api.ErrArg},
		{"a greater number behind", small(0), []api.Entry{ok, put("a", 6, "")}, nil, api.ErrArg},
		{"a greater kind behind", small(0), []api.Entry{gone("a", 5), ok}, nil, api.ErrArg},
		{"the first entry that is wrong: order", small(0), []api.Entry{ok, ok, put("b", 1, text(16385))}, nil, api.ErrArg},
		{"the first entry that is wrong: value", small(0), []api.Entry{ok, put("b", 1, text(16385)), ok}, nil, api.ErrLong},
		{"entries ahead of tombstones", small(0), []api.Entry{ok, ok}, make([]api.Tombstone, 1025), api.ErrArg},
		{"too many tombstones", small(0), []api.Entry{ok}, make([]api.Tombstone, 1025), api.ErrLong},
		{"a tombstone's number", small(0), []api.Entry{ok}, over, api.ErrArg},
		{"a tombstone's end", small(0), nil, []api.Tombstone{tomb("a", text(1025), 1)}, api.ErrLong},
		{"a tombstone over nothing that can't be", small(0), nil, []api.Tombstone{tomb("b", "a", api.MaxSeq+1)}, api.ErrArg},
		{"the first tombstone that is wrong", small(0), nil, []api.Tombstone{tomb("a", text(1025), 1), over[0]}, api.ErrLong},
	} {
		refuses(t, c.what, c.o, c.l, c.tombs, c.want)
	}
}

// P10.1: as many entries as there may be, and one more, by both comparators.
func TestBuildOfManyEntries(t *testing.T) {
	for _, how := range hows() {
		l := make([]api.Entry, 65537)
		for i := range l {
			l[i] = put("", uint64(len(l)-i), "")
		}
		x := made(t, great(how), l[:65536], nil)
		if n := x.Props().Entries; n != 65536 || !slices.Equal(everything(how, x), l[:65536]) {
			t.Errorf("%d: there are %d entries", how, n)
		}
		refuses(t, "one more", great(how), l, nil, api.ErrLong)
	}
}

// P10.1: the longest texts, the greatest number.
func TestBuildOfGreatEntries(t *testing.T) {
	l := []api.Entry{put("a", 1, text(16384)), gone(text(1024), api.MaxSeq), put(text(1024), 0, text(16384))}
	tombs := []api.Tombstone{tomb("a", text(1024), api.MaxSeq), tomb(text(1024), "u", 0)}
	x := made(t, small(0), l, tombs)
	if !slices.Equal(everything(0, x), l) || !slices.Equal(x.Tombstones(), tombs) {
		t.Errorf("%d entries, %d tombstones", x.Props().Entries, x.Props().Ranges)
	}
}

// filled is entries whose table has n bytes, which are not far from MaxBytes.
func filled(t *testing.T, o api.TableOptions, n int) []api.Entry {
	t.Helper()
	var l []api.Entry
	for i := range 256 {
		l = append(l, put(name(i), 1, text(16384)))
	}
	l[255].Value = text(1000)
	for range 5 {
		size := len(built(t, o, l, nil))
		if size == n {
			return l
		}
		l[255].Value = text(len(l[255].Value) + n - size)
	}
	t.Fatalf("no table of %v has %d bytes", o, n)
	return nil
}

// P10.1: as many bytes as there may be, and one more; with filters and without.
func TestBuildOfManyBytes(t *testing.T) {
	for _, bits := range []int{0, 10} {
		o := api.TableOptions{Block: 1 << 16, Restart: 16, Part: 4, Bits: bits}
		l := filled(t, o, 1<<22)
		opens(t, "as many bytes as there may be", 0, built(t, o, l, nil), api.OK)
		l[255].Value += "t"
		refuses(t, "one byte more", o, l, nil, api.ErrLong)
		opens(t, "one byte more", 0, planOf(o, l, nil).bytes(), api.ErrCorrupt)
	}
}

// P10.1: far too many bytes, of few texts.
func TestBuildOfFarTooManyBytes(t *testing.T) {
	value := text(16384)
	var l []api.Entry
	for i := range 65536 {
		l = append(l, put(name(i), 1, value))
	}
	for _, block := range []int{1, 4096, 1 << 20} {
		refuses(t, "a gibibyte", api.TableOptions{Block: block, Restart: 16, Part: 8}, l, nil, api.ErrLong)
	}
	user := text(1000)
	for i := range l {
		l[i] = put(user+name(i), 1, "")
	}
	// In great blocks the keys are short, for they have much in common; in those of one entry they are whole.
	built(t, api.TableOptions{Block: 1 << 20, Restart: 1024, Part: 8}, l, nil)
	refuses(t, "whole keys", api.TableOptions{Block: 1, Restart: 16, Part: 8}, l, nil, api.ErrLong)
}

// P10.1: so many blocks and parts as there may be entries; only with an index for each block they have too many bytes.
func TestBuildOfManyBlocks(t *testing.T) {
	l := make([]api.Entry, 65536)
	for i := range l {
		l[i] = put("", uint64(len(l)-i), "")
	}
	for _, c := range []struct{ part, entries, parts int }{{1024, 65536, 64}, {100, 65536, 656}, {1, 40000, 40000}} {
		o := api.TableOptions{Block: 1, Restart: 1, Part: c.part}
		if p := made(t, o, l[:c.entries], nil).Props(); p.Blocks != c.entries || p.Parts != c.parts {
			t.Errorf("%v", p)
		}
	}
	refuses(t, "an index for each", api.TableOptions{Block: 1, Restart: 1, Part: 1}, l, nil, api.ErrLong)
}

// P10.1: as many ranges as a block may have, and one more; too many bytes of them.
func TestBuildOfManyRanges(t *testing.T) {
	for _, how := range hows() {
		tombs := lying(how, nested(256))
		x := made(t, small(how), nil, tombs)
		if n := x.Props().Ranges; n != 65536 || !slices.Equal(x.Tombstones(), pieces(t, how, tombs)) {
			t.Errorf("%d: %d ranges", how, n)
		}
		refuses(t, "one more", small(how), nil, append(tombs, lying(how, []api.Tombstone{tomb("x", "y", 1)})...), api.ErrLong)
		refuses(t, "all there can be", small(how), nil, lying(how, nested(1024)), api.ErrLong)
	}
	var long []api.Tombstone
	for i, x := range nested(100) {
		long = append(long, tomb(x.Begin+text(1000), x.End+text(1000), uint64(i)))
	}
	refuses(t, "long ones", small(0), nil, long, api.ErrLong)
	built(t, small(0), nil, long[:30])
}

// What is handed in is not changed, its spare room neither, and what is answered is new.
func TestBuildKeepsNothing(t *testing.T) {
	l := append(make([]api.Entry, 0, 40), letters(0)...)
	tombs := append(make([]api.Tombstone, 0, 9), tomb("c", "g", 9), tomb("b", "a", 3), tomb("a", "e", 5))
	wasL, wasTombs := slices.Clone(l[:cap(l)]), slices.Clone(tombs[:cap(tombs)])
	one, other := built(t, small(0), l, tombs), built(t, small(0), l, tombs)
	if !slices.Equal(l[:cap(l)], wasL) || !slices.Equal(tombs[:cap(tombs)], wasTombs) {
		t.Errorf("%v, %v", l, tombs)
	}
	want := slices.Clone(one)
	clear(one[:cap(one)])
	if !bytes.Equal(other, want) || !bytes.Equal(built(t, small(0), l, tombs), want) {
		t.Error("two answers share memory")
	}
}
