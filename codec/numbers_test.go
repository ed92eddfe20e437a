package codec_test

import (
	"bytes"
	"encoding/binary"
	"math"
	"slices"
	"testing"

	"sediment/api"
	"sediment/codec"
)

// numbers are ordinary ones and, of every count of bits, those on both sides of a power of two.
func numbers() []uint64 {
	out := []uint64{0, 300, 12345, 0x0123456789abcdef, math.MaxUint64}
	for shift := range 64 {
		power := uint64(1) << shift
		out = append(out, power-1, power, power+1)
	}
	return out
}

// full is n bytes that say that a varint goes on, with all bits of their groups set.
func full(n int) []byte { return bytes.Repeat([]byte{0xff}, n) }

// empty is n bytes that say that a varint goes on, with no bit of their groups set.
func empty(n int) []byte { return bytes.Repeat([]byte{0x80}, n) }

func readsVarint(t *testing.T, b []byte, n uint64, size int, e api.Errno) {
	t.Helper()
	gotN, gotSize, gotE := codec.ReadVarint(b)
	if gotN != n || gotSize != size || gotE != e {
		t.Errorf("ReadVarint(%x) = %d, %d, %d; want %d, %d, %d", b, gotN, gotSize, gotE, n, size, e)
	}
}

// P1.1
func TestVarintBytes(t *testing.T) {
	for _, c := range []struct {
		n    uint64
		want string
	}{
		{0, "\x00"}, {1, "\x01"}, {127, "\x7f"}, {128, "\x80\x01"}, {300, "\xac\x02"},
		{1<<14 - 1, "\xff\x7f"}, {1 << 14, "\x80\x80\x01"},
		{1<<63 - 1, "\xff\xff\xff\xff\xff\xff\xff\xff\x7f"},
		{1 << 63, "\x80\x80\x80\x80\x80\x80\x80\x80\x80\x01"},
		{math.MaxUint64, "\xff\xff\xff\xff\xff\xff\xff\xff\xff\x01"},
	} {
		if got := codec.Varint(c.n); string(got) != c.want {
			t.Errorf("Varint(%d) = %x, want %x", c.n, got, c.want)
		}
	}
	for _, n := range numbers() {
		if got, want := codec.Varint(n), binary.AppendUvarint(nil, n); !bytes.Equal(got, want) {
			t.Errorf("Varint(%d) = %x, want %x", n, got, want)
		}
	}
}

// P1.1
func TestReadVarintLeavesWhatStandsBehind(t *testing.T) {
	for _, n := range numbers() {
		b := codec.Varint(n)
		for _, behind := range []string{"", "\x00", "\x80", "\xff\xff", "behind"} {
			readsVarint(t, append(slices.Clone(b), behind...), n, len(b), api.OK)
		}
	}
}

// P1.1
func TestReadVarintEndsEarly(t *testing.T) {
	readsVarint(t, nil, 0, 0, api.ErrShort)
	readsVarint(t, []byte{}, 0, 0, api.ErrShort)
	for n := 1; n <= 9; n++ {
		readsVarint(t, full(n), 0, 0, api.ErrShort)
		readsVarint(t, empty(n), 0, 0, api.ErrShort)
	}
	for _, n := range numbers() {
		b := codec.Varint(n)
		for size := range b {
			readsVarint(t, b[:size], 0, 0, api.ErrShort)
		}
	}
}

// P1.1: a nought at the end is a byte too many, wherever it stands and whatever follows.
func TestReadVarintWithMoreBytesThanItNeeds(t *testing.T) {
	for n := 1; n <= 9; n++ {
		for _, b := range [][]byte{full(n), empty(n)} {
			b = append(b, 0)
			readsVarint(t, b, 0, 0, api.ErrCorrupt)
			readsVarint(t, append(b, 1), 0, 0, api.ErrCorrupt)
		}
	}
}

// P1.1: of the tenth byte only a 1 can be; every other one is told there, also if b ends behind it.
func TestReadVarintOfTooGreatANumber(t *testing.T) {
	for tenth := range 256 {
		for _, b := range [][]byte{full(9), empty(9)} {
			b = append(b, byte(tenth))
			if tenth == 1 {
				n, _ := binary.Uvarint(b)
				readsVarint(t, b, n, 10, api.OK)
				continue
			}
			readsVarint(t, b, 0, 0, api.ErrCorrupt)
			readsVarint(t, append(b, 0), 0, 0, api.ErrCorrupt)
			readsVarint(t, append(b, 1), 0, 0, api.ErrCorrupt)
		}
	}
	readsVarint(t, empty(1000), 0, 0, api.ErrCorrupt)
	readsVarint(t, full(1000), 0, 0, api.ErrCorrupt)
}

// P1.1
func TestFixedBytes(t *testing.T) {
	if got := codec.Fixed32(0x01020304); string(got) != "\x04\x03\x02\x01" {
		t.Errorf("Fixed32: %x", got)
	}
	if got := codec.Fixed64(0x0102030405060708); string(got) != "\x08\x07\x06\x05\x04\x03\x02\x01" {
		t.Errorf("Fixed64: %x", got)
	}
	for _, n := range numbers() {
		if got, want := codec.Fixed64(n), binary.LittleEndian.AppendUint64(nil, n); !bytes.Equal(got, want) {
			t.Errorf("Fixed64(%d) = %x, want %x", n, got, want)
		}
		if got, want := codec.Fixed32(uint32(n)), binary.LittleEndian.AppendUint32(nil, uint32(n)); !bytes.Equal(got, want) {
			t.Errorf("Fixed32(%d) = %x, want %x", uint32(n), got, want)
		}
	}
}

// P1.1
func TestReadFixed(t *testing.T) {
	for _, n := range numbers() {
		for _, behind := range []string{"", "\xff", "behind"} {
			if got, e := codec.ReadFixed64(append(codec.Fixed64(n), behind...)); got != n || e != api.OK {
				t.Errorf("ReadFixed64 of %d: %d, %d", n, got, e)
			}
			if got, e := codec.ReadFixed32(append(codec.Fixed32(uint32(n)), behind...)); got != uint32(n) || e != api.OK {
				t.Errorf("ReadFixed32 of %d: %d, %d", uint32(n), got, e)
			}
		}
	}
}

// P1.1
func TestReadFixedEndsEarly(t *testing.T) {
	for size := range 4 {
		if n, e := codec.ReadFixed32(full(size)); n != 0 || e != api.ErrShort {
			t.Errorf("ReadFixed32 of %d bytes: %d, %d", size, n, e)
		}
	}
	for size := range 8 {
		if n, e := codec.ReadFixed64(full(size)); n != 0 || e != api.ErrShort {
			t.Errorf("ReadFixed64 of %d bytes: %d, %d", size, n, e)
		}
	}
	if _, e := codec.ReadFixed32(nil); e != api.ErrShort {
		t.Error(e)
	}
	if _, e := codec.ReadFixed64(nil); e != api.ErrShort {
		t.Error(e)
	}
}

// P1.6
func TestVarintThereAndBack(t *testing.T) {
	for _, n := range numbers() {
		b := codec.Varint(n)
		readsVarint(t, b, n, len(b), api.OK)
	}
}

// P1.6: whatever is read is just what Varint writes.
func TestVarintHasOneForm(t *testing.T) {
	check := func(b []byte) {
		n, size, e := codec.ReadVarint(b)
		if e == api.OK && !bytes.Equal(codec.Varint(n), b[:size]) {
			t.Errorf("%x was read as %d, which is %x", b, n, codec.Varint(n))
		}
	}
	for first := range 256 {
		check([]byte{byte(first)})
		for second := range 256 {
			check([]byte{byte(first), byte(second)})
			for size := 1; size <= 10; size++ {
				check(append(full(size), byte(first), byte(second)))
				check(append(empty(size), byte(first), byte(second)))
			}
		}
	}
}

// The rule of memory: an answer is changed by nobody, also not in its spare room, and nothing that was handed in is changed.
func TestNumbersAreNewMemory(t *testing.T) {
	makers := map[string]func() []byte{
		"Varint":  func() []byte { return codec.Varint(300) },
		"Fixed32": func() []byte { return codec.Fixed32(300) },
		"Fixed64": func() []byte { return codec.Fixed64(300) },
	}
	for name, makes := range makers {
		a, b := makes(), makes()
		want := slices.Clone(b)
		whole := a[:cap(a)]
		for i := range whole {
			whole[i] = 0xee
		}
		if !bytes.Equal(b, want) || !bytes.Equal(makes(), want) {
			t.Errorf("%s: two answers share memory", name)
		}
	}
	whole := []byte("\xac\x02\x00\x00\x00\x00\x00\x00spare")
	was := slices.Clone(whole)
	codec.ReadVarint(whole[:2])
	codec.ReadFixed32(whole[:4])
	codec.ReadFixed64(whole[:8])
	if !bytes.Equal(whole, was) {
		t.Errorf("what was read was changed: %x", whole)
	}
}
