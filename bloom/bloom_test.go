package bloom_test

import (
	"bytes"
	"encoding/hex"
	"slices"
	"testing"

	"sediment/api"
	"sediment/bloom"
)

// P6.2: filters that were worked out elsewhere.
func TestBuildKnown(t *testing.T) {
	for _, c := range []struct {
		keys []string
		bits int
		want string
	}{
		{nil, 10, "000000000000000006"},
		{[]string{}, 1, "000000000000000001"},
		{nil, 64, "00000000000000001e"},
		{[]string{"a"}, 1, "000000000400000001"},
		{[]string{"a"}, 10, "400010800420000806"},
		{[]string{""}, 10, "100120004000880006"},
		{[]string{"a"}, 64, "69495ad296b4a42d1e"},
		{[]string{"a", "b", "", "abc", "a"}, 20, "fcfb10813c00f9ec42b10276280d"},
		{[]string{"a", "b", "c"}, 64, "404110a00210545128286932d6fc8c9f7b736f47b084a2281e"},
		{counted("", 9), 9, "f4d4808d069926fb6a48c706"},
	} {
		if b, e := bloom.Build(c.keys, c.bits); hex.EncodeToString(b) != c.want || e != api.OK {
			t.Errorf("Build(%q, %d) = %x, %d, want %s", c.keys, c.bits, b, e, c.want)
		}
	}
}

// P6.2: how many bytes there are, and the last one of them.
func TestBuildSizes(t *testing.T) {
	for _, c := range []struct{ keys, bits, size int }{
		{0, 64, 9}, {1, 1, 9}, {1, 64, 9}, {2, 32, 9}, {6, 10, 9}, {7, 10, 10}, {8, 9, 10}, {64, 1, 9}, {65, 1, 10}, {72, 1, 10}, {73, 1, 11}, {2, 64, 17}, {13, 5, 10}, {1000, 10, 1251},
	} {
		b := built(t, counted("k", c.keys), c.bits)
		if len(b) != c.size || int(b[len(b)-1]) != modelProbes(c.bits) {
			t.Errorf("Build of %d keys with %d bits: %d bytes, the last one %d", c.keys, c.bits, len(b), b[len(b)-1])
		}
	}
}

// P6.2: each number of bits, some keys.
func TestBuildAsTheModel(t *testing.T) {
	r := chance(2)
	for bits := 1; bits <= 64; bits++ {
		for range 6 {
			keys := someKeys(r, r.IntN(12))
			if b := built(t, keys, bits); !bytes.Equal(b, modelBuild(keys, bits)) {
				t.Errorf("Build(%q, %d) = %x", keys, bits, b)
			}
		}
	}
}

// P6.2
func TestBuildOfBitsThatCantBe(t *testing.T) {
	for _, bits := range wrongBits() {
		for _, keys := range [][]string{nil, {"a"}, make([]string, 1<<20+1)} {
			if b, e := bloom.Build(keys, bits); len(b) != 0 || e != api.ErrArg {
				t.Errorf("Build of %d keys with %d bits: %d bytes, %d", len(keys), bits, len(b), e)
			}
		}
	}
}

// P6.2: as many keys as can be, and one more; that they are all the same one makes them no fewer.
func TestBuildOfMostKeys(t *testing.T) {
	keys := make([]string, 1<<20+1)
	for _, bits := range []int{1, 10, 64} {
		b := built(t, keys[1:], bits)
		if len(b) != bits<<17+1 || bloom.Check(b) != api.OK || !bloom.May(b, "") || bloom.May(b, "a") {
			t.Errorf("Build of 2^20 keys with %d bits: %d bytes", bits, len(b))
		}
		if b, e := bloom.Build(keys, bits); len(b) != 0 || e != api.ErrLong {
			t.Errorf("Build of 2^20 + 1 keys with %d bits: %d bytes, %d", bits, len(b), e)
		}
	}
}

// P6.3: which bytes are a filter.
func TestCheck(t *testing.T) {
	for probes := range 256 {
		for _, x := range []byte{0, 1, 0xff} {
			want := api.ErrCorrupt
			if probes >= 1 && probes <= 30 {
				want = api.OK
			}
			for _, n := range []int{9, 10, 100} {
				if e := bloom.Check(blank(n, x, byte(probes))); e != want {
					t.Errorf("Check of %d bytes, the last one %d: %d", n, probes, e)
				}
			}
			for n := 1; n < 9; n++ {
				if e := bloom.Check(blank(n, x, byte(probes))); e != api.ErrCorrupt {
					t.Errorf("Check of %d bytes, the last one %d: %d", n, probes, e)
				}
			}
		}
	}
	for _, b := range [][]byte{nil, {}} {
		if e := bloom.Check(b); e != api.ErrCorrupt {
			t.Errorf("Check of no bytes: %d", e)
		}
	}
}

// P6.3: the most bytes that a filter has, and one more.
func TestLongFilters(t *testing.T) {
	long := make([]byte, 1<<24+1)
	long[1<<24-1], long[1<<24] = 6, 6
	if e := bloom.Check(long[:1<<24]); e != api.OK || bloom.May(long[:1<<24], "a") {
		t.Errorf("Check of 2^24 bytes: %d", e)
	}
	if e := bloom.Check(long); e != api.ErrCorrupt || !bloom.May(long, "a") {
		t.Errorf("Check of 2^24 + 1 bytes: %d", e)
	}
	b := bytes.Clone(long[:1<<24])
	for _, bit := range modelBits("a", 8*(1<<24-1), 6) {
		if bloom.May(b, "a") {
			t.Errorf("May of 2^24 bytes is true ahead of the bit %d", bit)
		}
		b[bit/8] |= 1 << (bit % 8)
	}
	if !bloom.May(b, "a") || bloom.May(b, "b") {
		t.Error("May of 2^24 bytes is not what its bits say")
	}
	// However long it is, it is a filter: only Check and May look at that.
	long[1] = 4
	if u, e := bloom.Union(long, long); e != api.OK || !bytes.Equal(u, long) {
		t.Errorf("Union of 2^24 + 1 bytes: %d bytes, %d", len(u), e)
	}
}

// P6.3: of what is no filter, every key may be there.
func TestMayOfNoFilter(t *testing.T) {
	for _, b := range [][]byte{nil, {}, {6}, make([]byte, 8), blank(8, 0, 6), make([]byte, 9), blank(9, 0, 31), blank(9, 0, 255), blank(100, 0, 0)} {
		for _, key := range []string{"", "a", "\x00"} {
			if !bloom.May(b, key) {
				t.Errorf("May(%x, %q) is false", b, key)
			}
		}
	}
}

// P6.3: a key's probes, all of them, and nothing else.
func TestMayLooksAtEachProbe(t *testing.T) {
	r := chance(3)
	for range 300 {
		n, key := 9+r.IntN(20), someKey(r)
		probes := 1 + r.IntN(30)
		b := blank(n, 0, byte(probes))
		bits := modelBits(key, 8*(n-1), probes)
		for _, bit := range bits {
			b[bit/8] |= 1 << (bit % 8)
		}
		if !bloom.May(b, key) {
			t.Errorf("May(%x, %q) is false", b, key)
		}
		for _, bit := range bits {
			full := blank(n, 0xff, byte(probes))
			full[bit/8] &^= 1 << (bit % 8)
			if bloom.May(full, key) {
				t.Errorf("May(%x, %q) is true without the bit %d", full, key, bit)
			}
		}
	}
}

// P6.3: whatever the bits are.
func TestMayAsTheModel(t *testing.T) {
	r := chance(4)
	var told [2]int
	for range 4000 {
		b := make([]byte, 9+r.IntN(12))
		for i := range b {
			b[i] = byte(r.IntN(256) | r.IntN(256))
		}
		b[len(b)-1] = byte(1 + r.IntN(6))
		key := someKey(r)
		want := modelMay(b, key)
		if bloom.May(b, key) != want {
			t.Errorf("May(%x, %q) is not %t", b, key, want)
		}
		if want {
			told[1]++
		} else {
			told[0]++
		}
	}
	if told[0] < 500 || told[1] < 500 {
		t.Errorf("too few of some answer: %v", told)
	}
}

// P6.3
func TestUnion(t *testing.T) {
	a := []byte{1, 2, 4, 8, 16, 32, 64, 128, 0x0f, 6}
	b := []byte{1, 1, 0xff, 0, 0x80, 0, 2, 128, 0xf0, 6}
	want := []byte{1, 3, 0xff, 8, 0x90, 32, 66, 128, 0xff, 6}
	for _, u := range [][]byte{united(t, a, b), united(t, b, a)} {
		if !bytes.Equal(u, want) {
			t.Errorf("Union is %x, want %x", u, want)
		}
	}
	if u := united(t, a, a); !bytes.Equal(u, a) {
		t.Errorf("Union of a filter and itself is %x", u)
	}
	for probes := 1; probes <= 30; probes++ {
		if u := united(t, blank(9, 0, byte(probes)), blank(9, 7, byte(probes))); !bytes.Equal(u, blank(9, 7, byte(probes))) {
			t.Errorf("Union with %d probes is %x", probes, u)
		}
	}
}

// P6.3: which can't be put together; that one is no filter is told first.
func TestUnionRefused(t *testing.T) {
	good := blank(12, 5, 6)
	for _, b := range [][]byte{nil, {}, {6}, blank(8, 0, 6), make([]byte, 9), blank(12, 5, 0), blank(12, 5, 31), blank(12, 5, 255)} {
		for _, pair := range [][2][]byte{{good, b}, {b, good}, {b, b}} {
			if u, e := bloom.Union(pair[0], pair[1]); len(u) != 0 || e != api.ErrCorrupt {
				t.Errorf("Union(%x, %x) = %x, %d", pair[0], pair[1], u, e)
			}
		}
	}
	for _, b := range [][]byte{blank(11, 5, 6), blank(13, 5, 6), blank(9, 5, 6), blank(12, 5, 5), blank(12, 5, 7), blank(12, 5, 30), blank(13, 5, 1)} {
		for _, pair := range [][2][]byte{{good, b}, {b, good}} {
			if u, e := bloom.Union(pair[0], pair[1]); len(u) != 0 || e != api.ErrArg {
				t.Errorf("Union(%x, %x) = %x, %d", pair[0], pair[1], u, e)
			}
		}
	}
}

// What is handed in is neither changed nor kept, and an answer is new memory.
func TestMemory(t *testing.T) {
	room := append(blank(12, 5, 6), 1, 2, 3)
	other := append(blank(12, 9, 6), 4, 5, 6)
	before, beforeOther := bytes.Clone(room), bytes.Clone(other)
	a, b := room[:12], other[:12]
	u := united(t, a, b)
	bloom.May(a, "a")
	bloom.Check(a)
	clear(u[:cap(u)])
	if !bytes.Equal(room, before) || !bytes.Equal(other, beforeOther) {
		t.Errorf("what was handed in is %x and %x", room, other)
	}
	keys := []string{"c", "a", "b", "d", "e"}
	c, d := built(t, keys[:3], 10), built(t, keys[:3], 10)
	want := bytes.Clone(d)
	clear(c[:cap(c)])
	if !bytes.Equal(d, want) || !bytes.Equal(built(t, keys[:3], 10), want) {
		t.Error("an answer is not new memory")
	}
	if !slices.Equal(keys, []string{"c", "a", "b", "d", "e"}) {
		t.Errorf("the keys that were handed in are %q", keys)
	}
}
