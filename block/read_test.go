package block_test

import (
	"bytes"
	"math"
	"slices"
	"testing"

	"sediment/api"
	"sediment/block"
)

// P8.2: no comparator, too many bytes, too few: in that order.
func TestCheckOfLengths(t *testing.T) {
	full := built(t, api.Bytewise, 4, []api.Entry{put("a", 9, "x"), put("ab", 9, "y")})
	for _, b := range [][]byte{nil, full, full[:5], make([]byte, api.MaxBytes+1)} {
		for _, how := range wrongHows() {
			checks(t, "how", how, b, api.ErrArg)
		}
	}
	for _, how := range hows() {
		checks(t, "too long", how, make([]byte, api.MaxBytes+1), api.ErrLong)
		checks(t, "too long", how, append(bytes.Repeat([]byte{255}, api.MaxBytes), 1), api.ErrLong)
		checks(t, "just so long", how, make([]byte, api.MaxBytes), api.ErrCorrupt)
		for n := range 8 {
			checks(t, "fewer than 8", how, make([]byte, n), api.ErrShort)
			checks(t, "fewer than 8", how, []byte(foot(0))[8-n:], api.ErrShort)
		}
		checks(t, "no places", how, make([]byte, 8), api.ErrCorrupt)
		checks(t, "no places", how, make([]byte, 12), api.ErrCorrupt)
		checks(t, "just one place", how, []byte(foot(0)), api.OK)
		for _, n := range []uint32{2, 3, 1 << 20, 1 << 30, 1<<30 + 1, 1 << 31, math.MaxUint32} {
			checks(t, "too many places", how, []byte(fixed(0)+fixed(n)), api.ErrShort)
			checks(t, "too many places", how, append(slices.Clone(full[:len(full)-4]), fixed(max(n, 9))...), api.ErrShort)
		}
		checks(t, "as many places as bytes", how, []byte(foot(0, 1, 2)), api.ErrCorrupt)
		checks(t, "one byte too few", how, []byte(foot(0, 1, 2))[1:], api.ErrShort)
	}
}

// P8.2: entries that are wrong in one thing; each is held against its neighbour that is not.
func TestCheckOfEntries(t *testing.T) {
	a, ab := put("a", 9, "x"), put("ab", 9, "y")
	first := rawOf(0, a)
	for _, c := range []struct {
		what string
		b    []byte
		want api.Errno
	}{
		{"as it should be", blockOf([]raw{first, rawOf(1, ab)}, 0), api.OK},
		{"nothing in common", blockOf([]raw{first, rawOf(0, ab)}, 0), api.OK},
		{"less in common than could be", blockOf([]raw{first, rawOf(1, put("a", 8, ""))}, 0), api.OK},
		{"more in common than the first one could have", blockOf([]raw{{1, 8, 1, keyBytes(a.Key)[1:] + "x"}}, 0), api.ErrCorrupt},
		{"more in common than the first one could have", blockOf([]raw{{math.MaxUint64, 9, 1, keyBytes(a.Key) + "x"}}, 0), api.ErrCorrupt},
		{"all of the key ahead", blockOf([]raw{first, {9, 8, 0, keyBytes(key("", 1, 1))}}, 0), api.OK},
		{"more than the key ahead", blockOf([]raw{first, {10, 8, 0, keyBytes(key("", 1, 1))}}, 0), api.ErrCorrupt},
		{"far more than the key ahead", blockOf([]raw{first, {math.MaxUint64, 8, 0, keyBytes(key("", 1, 1))}}, 0), api.ErrCorrupt},
		{"far more than the key ahead", blockOf([]raw{first, {1 << 63, 8, 0, keyBytes(key("", 1, 1))}}, 0), api.ErrCorrupt},
		{"a key that does not end", blockOf([]raw{{0, 10, 0, keyBytes(a.Key)}}, 0), api.ErrCorrupt},
		{"a key that does not end", blockOf([]raw{{0, math.MaxUint64, 0, keyBytes(a.Key)}}, 0), api.ErrCorrupt},
		{"a key that does not end", blockOf([]raw{{0, 1 << 63, 1, keyBytes(a.Key)}}, 0), api.ErrCorrupt},
		{"a value that does not end", blockOf([]raw{{0, 9, 2, keyBytes(a.Key) + "x"}}, 0), api.ErrCorrupt},
		{"a value that does not end", blockOf([]raw{{0, 9, math.MaxUint64, keyBytes(a.Key) + "x"}}, 0), api.ErrCorrupt},
		{"a value that ends in the places", blockOf([]raw{{0, 9, 8, keyBytes(a.Key)}}, 0), api.ErrCorrupt},
		{"the longest value", blockOf([]raw{rawOf(0, put("a", 9, text(16384)))}, 0), api.OK},
		{"too long a value", blockOf([]raw{rawOf(0, put("a", 9, text(16385)))}, 0), api.ErrCorrupt},
		{"the longest key", blockOf([]raw{rawOf(0, put(text(1024), 9, ""))}, 0), api.OK},
		{"too long a key", blockOf([]raw{rawOf(0, put(text(1025), 9, ""))}, 0), api.ErrCorrupt},
		{"too long a key, most of it in common", blockOf([]raw{rawOf(0, put(text(1024), 9, "")), {1032, 1, 0, "\x00"}}, 0), api.ErrCorrupt},
		{"far too long a key", blockOf([]raw{rawOf(0, put(text(1<<21), 9, ""))}, 0), api.ErrCorrupt},
		{"the shortest key", blockOf([]raw{{0, 8, 0, keyBytes(api.Key{})}}, 0), api.OK},
		{"too short a key", blockOf([]raw{{0, 7, 0, keyBytes(api.Key{})[:7]}}, 0), api.ErrCorrupt},
		{"no key", blockOf([]raw{{0, 0, 0, ""}}, 0), api.ErrCorrupt},
		{"too short a key in common", blockOf([]raw{first, {7, 0, 0, ""}}, 0), api.ErrCorrupt},
		{"the greatest kind and number", blockOf([]raw{rawOf(0, entry("a", api.MaxSeq, 2, ""))}, 0), api.OK},
		{"too great a kind", blockOf([]raw{rawOf(0, entry("a", 9, 3, ""))}, 0), api.ErrCorrupt},
		{"too great a kind", blockOf([]raw{rawOf(0, entry("a", 9, 255, ""))}, 0), api.ErrCorrupt},
		{"the same key", blockOf([]raw{first, rawOf(0, a)}, 0), api.ErrCorrupt},
		{"the same key, all in common", blockOf([]raw{first, rawOf(9, a)}, 0), api.ErrCorrupt},
		{"a greater number", blockOf([]raw{first, rawOf(0, put("a", 10, ""))}, 0), api.ErrCorrupt},
		{"a greater kind", blockOf([]raw{first, rawOf(0, entry("a", 9, 2, ""))}, 0), api.ErrCorrupt},
		{"a lesser kind", blockOf([]raw{first, rawOf(0, entry("a", 9, 0, ""))}, 0), api.OK},
		{"a lesser key", blockOf([]raw{first, rawOf(0, put("A", 9, ""))}, 0), api.ErrCorrupt},
		{"a lesser key behind others", blockOf([]raw{first, rawOf(0, put("c", 9, "")), rawOf(0, put("b", 9, ""))}, 0), api.ErrCorrupt},
		{"one byte more", []byte(first.String() + "\x00" + foot(0)), api.ErrCorrupt},
		{"two bytes more", []byte(first.String() + "\x00\x09" + foot(0)), api.ErrCorrupt},
		{"three bytes more", []byte(first.String() + "\x00\x00\x00" + foot(0)), api.ErrCorrupt},
	} {
		checks(t, c.what, api.Bytewise, c.b, c.want)
		if e := modelCheck(api.Bytewise, c.b); e != c.want {
			t.Errorf("%s: by the chapter's words %d", c.what, e)
		}
	}
}

// P8.2: numbers that can't be, in each of an entry's three.
func TestCheckOfVarints(t *testing.T) {
	k := keyBytes(key("a", 9, api.Put))
	check := func(what, s string, want api.Errno) {
		t.Helper()
		checks(t, what, api.Bytewise, []byte(s+foot(0)), want)
	}
	check("as it should be", "\x00\x09\x01"+k+"x", api.OK)
	for what, n := range map[string][3]string{
		"longer than it needs":      {"\x80\x00", "\x89\x00", "\x81\x00"},
		"far longer than it needs":  {"\x80\x80\x80\x80\x80\x80\x80\x80\x80\x00", "\x89\x80\x80\x80\x80\x80\x80\x80\x80\x00", "\x81\x80\x80\x80\x80\x80\x80\x80\x80\x00"},
		"too great":                 {"\x80\x80\x80\x80\x80\x80\x80\x80\x80\x02", "\x89\x80\x80\x80\x80\x80\x80\x80\x80\x02", "\x81\x80\x80\x80\x80\x80\x80\x80\x80\x02"},
		"greatest":                  {"\xff\xff\xff\xff\xff\xff\xff\xff\xff\x01", "\xff\xff\xff\xff\xff\xff\xff\xff\xff\x01", "\xff\xff\xff\xff\xff\xff\xff\xff\xff\x01"},
		"it fits 32 bits, cut off":  {"\x80\x80\x80\x80\x10", "\x89\x80\x80\x80\x10", "\x81\x80\x80\x80\x10"},
		"it goes on for eleven":     {"\x80\x80\x80\x80\x80\x80\x80\x80\x80\x81\x00", "\x89\x80\x80\x80\x80\x80\x80\x80\x80\x81\x00", "\x81\x80\x80\x80\x80\x80\x80\x80\x80\x81\x00"},
		"one bit more than 63 says": {"\x80\x80\x80\x80\x80\x80\x80\x80\x80\x01", "\x89\x80\x80\x80\x80\x80\x80\x80\x80\x01", "\x81\x80\x80\x80\x80\x80\x80\x80\x80\x01"},
	} {
		check(what+" (common)", n[0]+"\x09\x01"+k+"x", api.ErrCorrupt)
		check(what+" (left)", "\x00"+n[1]+"\x01"+k+"x", api.ErrCorrupt)
		check(what+" (value)", "\x00\x09"+n[2]+k+"x", api.ErrCorrupt)
	}
	// One that can't be, and would be a key's first bytes if it were passed over.
	check("no value", "\x00\x09\x00"+"\x81\x00\x00\x00\x00\x00\x00\x00\x00", api.OK)
	check("longer than it needs (value)", "\x00\x09"+"\x81\x00\x00\x00\x00\x00\x00\x00\x00", api.ErrCorrupt)
	// Numbers that do not end ahead of the places, though they would go on there.
	for _, s := range []string{"\x80", "\x00\x80", "\x00\x09\x80", "\x00", "\x00\x09", "\x00\x09\x01"} {
		check("no end", s, api.ErrCorrupt)
		check("no end behind an entry", "\x00\x09\x01"+k+"x"+s, api.ErrCorrupt)
	}
}

// P8.2: places; first the entries are told apart, of which those at 0, 13 and 39 have nothing in common.
func TestCheckOfPlaces(t *testing.T) {
	l := []raw{rawOf(0, put("a", 9, "x")), rawOf(0, put("b", 9, "x")), rawOf(1, put("bc", 9, "x")), rawOf(0, put("c", 9, "x"))}
	for _, c := range []struct {
		want   api.Errno
		places []uint32
	}{
		{api.OK, []uint32{0}},
		{api.OK, []uint32{0, 13}},
		{api.OK, []uint32{0, 39}},
		{api.OK, []uint32{0, 13, 39}},
		{api.ErrCorrupt, []uint32{13}},
		{api.ErrCorrupt, []uint32{13, 39}},
		{api.ErrCorrupt, []uint32{13, 0}},
		{api.ErrCorrupt, []uint32{1}},
		{api.ErrCorrupt, []uint32{0, 0}},
		{api.ErrCorrupt, []uint32{0, 13, 13}},
		{api.ErrCorrupt, []uint32{0, 39, 13}},
		{api.ErrCorrupt, []uint32{0, 13, 0}},
		{api.ErrCorrupt, []uint32{0, 26}},
		{api.ErrCorrupt, []uint32{0, 13, 26, 39}},
		{api.ErrCorrupt, []uint32{0, 1}},
		{api.ErrCorrupt, []uint32{0, 12, 13}},
		{api.ErrCorrupt, []uint32{0, 52}},
		{api.ErrCorrupt, []uint32{0, 53}},
		{api.ErrCorrupt, []uint32{0, 1 << 31}},
		{api.ErrCorrupt, []uint32{0, math.MaxUint32}},
		{api.ErrCorrupt, []uint32{math.MaxUint32}},
		{api.ErrCorrupt, []uint32{1 << 31, 13}},
	} {
		b := blockOf(l, c.places...)
		checks(t, "places", api.Bytewise, b, c.want)
		if e := modelCheck(api.Bytewise, b); e != c.want {
			t.Errorf("%v: by the chapter's words %d", c.places, e)
		}
	}
	for _, places := range [][]uint32{{1}, {8}, {0, 0}, {0, 1}, {0, 8}, {math.MaxUint32}} {
		for _, how := range hows() {
			checks(t, "places of no entries", how, blockOf(nil, places...), api.ErrCorrupt)
		}
	}
}

// P8.2: whether the entries rise is by the comparator.
func TestCheckByTheComparator(t *testing.T) {
	rising := built(t, api.Bytewise, 2, []api.Entry{put("a", 9, ""), put("ab", 9, ""), put("b", 9, "")})
	falling := built(t, api.Reverse, 2, []api.Entry{put("b", 9, ""), put("ab", 9, ""), put("a", 9, "")})
	both := built(t, api.Reverse, 2, []api.Entry{put("b", 9, ""), put("b", 8, ""), entry("b", 8, api.Delete, "")})
	checks(t, "rising", api.Bytewise, rising, api.OK)
	checks(t, "rising", api.Reverse, rising, api.ErrCorrupt)
	checks(t, "falling", api.Bytewise, falling, api.ErrCorrupt)
	checks(t, "falling", api.Reverse, falling, api.OK)
	checks(t, "both", api.Bytewise, both, api.OK)
	checks(t, "both", api.Reverse, both, api.OK)
}

// P8.2: as many entries as there may be, whole or not, and one more.
func TestCheckOfManyEntries(t *testing.T) {
	for _, n := range []int{65536, 65537} {
		want := api.OK
		if n > 65536 {
			want = api.ErrCorrupt
		}
		l := make([]raw, n)
		for i, x := range many(n) {
			l[i] = rawOf(0, x)
		}
		checks(t, "one place", api.Bytewise, blockOf(l, 0), want)
		for i, x := range many(n) {
			if i > 0 {
				l[i] = rawOf(1, x)
			}
		}
		b := blockOf(l, 0)
		checks(t, "in common", api.Reverse, b, want)
		if want == api.OK {
			x := opened(t, api.Reverse, b)
			has(t, x, many(n), 1)
			tells(t, x, api.Reverse, many(n), key("", 30000, api.Put))
		}
	}
}

// P8.2: each place cut off, each bit turned, each byte put in or taken out.
func TestCheckOfSpoiltBytes(t *testing.T) {
	for _, how := range hows() {
		l := sorted(how, []api.Entry{put("a", 9, "x"), put("a", 7, ""), entry("a", 7, api.Delete, "q"), put("ab", 3, "yy"), put("b", 300, ""), put("ba", 1, "z")})
		for _, restart := range []int{1, 2, 16} {
			b := built(t, how, restart, l)
			for i := range b {
				asTheWordsSay(t, how, b[:i])
				asTheWordsSay(t, how, b[i:])
				asTheWordsSay(t, how, slices.Delete(slices.Clone(b), i, i+1))
				for _, c := range []byte{0, 1, 8, 9, 128, 255} {
					asTheWordsSay(t, how, slices.Insert(slices.Clone(b), i, c))
				}
				for bit := range 8 {
					spoilt := slices.Clone(b)
					spoilt[i] ^= 1 << bit
					asTheWordsSay(t, how, spoilt)
				}
			}
		}
	}
}

// asTheWordsSay wants Check to tell what the chapter's words say, and what is a block to tell its entries.
func asTheWordsSay(t *testing.T, how int, b []byte) api.Errno {
	t.Helper()
	want := modelCheck(how, b)
	if e := block.Check(how, b); e != want {
		t.Fatalf("Check(%d, %x) = %d, want %d", how, b, e, want)
	}
	if want == api.OK {
		n := int(b[len(b)-4]) + int(b[len(b)-3])<<8
		l, _, _ := modelEntries(how, string(b[:len(b)-4-4*n]))
		has(t, opened(t, how, b), l, n)
	}
	return want
}

// P8.2, P8.3: bytes that chance makes of entries that can be, written with whatever in common and whichever places, and a little spoilt.
func TestCheckOfChance(t *testing.T) {
	var seen [5]int
	for seed := range uint64(6000) {
		r := chance(seed)
		how := r.IntN(2)
		var l []raw
		var wholes []uint32
		ahead, at := "", 0
		given := sorted(how, someEntries(r, 12))
		for _, x := range given {
			k := keyBytes(x.Key)
			most := 0
			for most < min(len(k), len(ahead)) && k[most] == ahead[most] {
				most++
			}
			common := r.IntN(most + 1)
			if common == 0 && (at == 0 || r.IntN(2) == 0) {
				wholes = append(wholes, uint32(at))
			}
			l = append(l, rawOf(common, x))
			at += len(l[len(l)-1].String())
			ahead = k
		}
		if at == 0 {
			wholes = []uint32{0}
		}
		b := blockOf(l, wholes...)
		if e := asTheWordsSay(t, how, b); e != api.OK {
			t.Fatalf("by the chapter's words %d", e)
		}
		x := opened(t, how, b)
		for range 3 {
			tells(t, x, how, given, someKey(r, true))
		}
		for range 1 + r.IntN(3) {
			b[r.IntN(len(b))] ^= 1 << r.IntN(8)
		}
		seen[asTheWordsSay(t, how, b)]++
	}
	if seen[api.OK] < 100 || seen[api.ErrCorrupt] < 100 || seen[api.ErrShort] < 100 {
		t.Errorf("seen: %v", seen)
	}
}

// P8.2: whatever bytes: all ends, and is as the words say.
func TestCheckOfAnyBytes(t *testing.T) {
	for seed := range uint64(20000) {
		r := chance(seed)
		b := make([]byte, r.IntN(60))
		for i := range b {
			b[i] = []byte{0, 0, 0, 1, 2, 8, 9, 128, 255, byte(r.IntN(256))}[r.IntN(10)]
		}
		if len(b) > 4 && r.IntN(2) == 0 {
			copy(b[len(b)-4:], fixed(uint32(r.IntN(4))))
		}
		asTheWordsSay(t, r.IntN(2), b)
	}
}

// What is handed in is neither changed nor kept.
func TestOpenKeepsNothing(t *testing.T) {
	l := []api.Entry{put("a", 9, "x"), put("ab", 9, "y"), put("c", 9, "z")}
	b := slices.Grow(built(t, api.Bytewise, 2, l), 20)
	was := slices.Clone(b[:cap(b)])
	x := opened(t, api.Bytewise, b)
	block.Check(api.Bytewise, b)
	if !bytes.Equal(b[:cap(b)], was) {
		t.Error("the bytes were changed")
	}
	clear(b[:cap(b)])
	has(t, x, l, 2)
	for _, y := range l {
		tells(t, x, api.Bytewise, l, y.Key)
	}
}
