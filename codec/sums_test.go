package codec_test

import (
	"bytes"
	"hash/crc32"
	"math/bits"
	"slices"
	"testing"

	"sediment/codec"
)

// message is n bytes that look as if they were thrown, the same ones each time.
func message(n int) []byte {
	b := make([]byte, n)
	x := uint32(n) + 1
	for i := range b {
		x = x*1664525 + 1013904223
		b[i] = byte(x >> 24)
	}
	return b
}

// flip turns bits about: those of pattern, from a place on; the low bit of a byte comes first.
func flip(b []byte, from int, pattern uint32) []byte {
	out := slices.Clone(b)
	for i := range 32 {
		if pattern>>i&1 == 1 {
			out[(from+i)/8] ^= 1 << ((from + i) % 8)
		}
	}
	return out
}

// P1.2
func TestSumOfKnownBytes(t *testing.T) {
	for _, c := range []struct {
		b    []byte
		want uint32
	}{
		{nil, 0},
		{[]byte{}, 0},
		{[]byte("123456789"), 0xe3069283},
		{bytes.Repeat([]byte{0}, 32), 0x8a9136aa},
		{bytes.Repeat([]byte{0xff}, 32), 0x62a8ab43},
	} {
		if got := codec.Sum(c.b); got != c.want {
			t.Errorf("Sum(%x) = %08x, want %08x", c.b, got, c.want)
		}
	}
}

// P1.2
func TestSumIsCastagnolis(t *testing.T) {
	table := crc32.MakeTable(crc32.Castagnoli)
	check := func(b []byte) {
		if got, want := codec.Sum(b), crc32.Checksum(b, table); got != want {
			t.Errorf("Sum of %d bytes: %08x, want %08x", len(b), got, want)
		}
	}
	for c := range 256 {
		check([]byte{byte(c)})
	}
	for n := range 300 {
		check(message(n))
	}
	check(message(1 << 16))
}

func sums() []uint32 {
	out := []uint32{0, 1, 77, 0xe3069283, 0xa282ead8, 0x5d7d1528, 1<<32 - 1}
	for shift := range 32 {
		out = append(out, 1<<shift, 1<<shift-1, ^uint32(1<<shift))
	}
	for n := range 100 {
		out = append(out, crc32.ChecksumIEEE(message(n)))
	}
	return out
}

// P1.2
func TestMask(t *testing.T) {
	for _, c := range []struct{ sum, want uint32 }{
		{0, 0xa282ead8},
		{1, 0xa284ead8},       // the lowest bit comes in as bit 17
		{1 << 15, 0xa282ead9}, // bit 15 is the lowest one then
		{1 << 14, 0x2282ead8}, // bit 14 is the highest one then, and its sum runs over
		{1<<32 - 1, 0xa282ead7},
	} {
		if got := codec.Mask(c.sum); got != c.want {
			t.Errorf("Mask(%08x) = %08x, want %08x", c.sum, got, c.want)
		}
	}
	for _, s := range sums() {
		if got, want := codec.Mask(s), (s>>15|s<<17)+0xa282ead8; got != want {
			t.Errorf("Mask(%08x) = %08x, want %08x", s, got, want)
		}
	}
}

// P1.2, P1.6
func TestUnmaskIsMasksBack(t *testing.T) {
	if got := codec.Unmask(0xa282ead8); got != 0 {
		t.Errorf("Unmask: %08x", got)
	}
	for _, s := range sums() {
		if got := codec.Unmask(codec.Mask(s)); got != s {
			t.Errorf("Unmask(Mask(%08x)) = %08x", s, got)
		}
		if got := codec.Mask(codec.Unmask(s)); got != s {
			t.Errorf("Mask(Unmask(%08x)) = %08x", s, got)
		}
	}
}

// P1.9: some changes of each length, at each place.
func TestSumTellsChanges(t *testing.T) {
	const size = 24
	b := message(size)
	was := codec.Sum(b)
	for from := range 8*size - 31 {
		for length := range 32 {
			ends := uint32(1) | 1<<length
			inner := crc32.ChecksumIEEE([]byte{byte(from), byte(length)}) & (1<<length - 1)
			for _, pattern := range []uint32{ends, ends | inner, ends | (1<<length - 1)} {
				if codec.Sum(flip(b, from, pattern)) == was {
					t.Errorf("bits %08x from %d on are not told", pattern, from)
				}
			}
		}
	}
}

// P1.9: all changes within 32 bits in a row. What a change does to the sum is the xor of what its bits do each (looked at
// here first); so no change is missed at a place just if none of what its 32 bits do is the xor of others.
func TestSumTellsAllChanges(t *testing.T) {
	const size = 40
	for _, b := range [][]byte{message(size), make([]byte, size)} {
		was := codec.Sum(b)
		var effects [8 * size]uint32
		for i := range effects {
			effects[i] = codec.Sum(flip(b, i, 1)) ^ was
		}
		for from := range 8*size - 31 {
			window := effects[from : from+32]
			together(t, b, from, window)
			if rank(window) != 32 {
				t.Errorf("a change from bit %d on is not told", from)
			}
		}
	}
}

// together checks that several bits do to the sum what each of them does.
func together(t *testing.T, b []byte, from int, effects []uint32) {
	pattern := crc32.ChecksumIEEE([]byte{byte(from), byte(from >> 8)})
	want := codec.Sum(b)
	for i, effect := range effects {
		if pattern>>i&1 == 1 {
			want ^= effect
		}
	}
	if got := codec.Sum(flip(b, from, pattern)); got != want {
		t.Errorf("bits %08x from %d on: %08x, want %08x", pattern, from, got, want)
	}
}

// rank is how many of the words are not the xor of others.
func rank(words []uint32) int {
	var basis [32]uint32
	n := 0
	for _, w := range words {
		for w != 0 {
			top := 31 - bits.LeadingZeros32(w)
			if basis[top] == 0 {
				basis[top] = w
				n++
				break
			}
			w ^= basis[top]
		}
	}
	return n
}

func TestSumChangesNothing(t *testing.T) {
	whole := message(40)
	was := slices.Clone(whole)
	codec.Sum(whole[:30])
	if !bytes.Equal(whole, was) {
		t.Error("what was summed was changed")
	}
}
