package bloom_test

import (
	"math"
	"strings"
	"testing"

	"sediment/api"
	"sediment/bloom"
)

// allBytes is each byte once.
func allBytes() string {
	var b [256]byte
	for i := range b {
		b[i] = byte(i)
	}
	return string(b[:])
}

// P6.1: numbers that were worked out elsewhere.
func TestHashOfKnownKeys(t *testing.T) {
	for key, want := range map[string]uint64{
		"":          0x8570e250fe4c2473,
		"a":         0x82b19d9859a61322,
		"b":         0x4a14e8514a87f785,
		"abc":       0xc4166b2808e28ecb,
		"\x00":      0x71d92418536132d1,
		"\x00\x00":  0x0651cb401b570433,
		"\xff":      0x28fbdd7e7eb5ec33,
		"123456789": 0x5b4e3c77dbf4fd81,
		"sediment":  0x088ecab2ead4663d,
		allBytes():  0xbfe6462e51adee9e,
	} {
		if got := bloom.Hash(key); got != want {
			t.Errorf("Hash(%q) = %016x, want %016x", key, got, want)
		}
	}
}

// P6.1
func TestHashAsTheModel(t *testing.T) {
	r := chance(1)
	keys := someKeys(r, 500)
	for i := range 256 {
		keys = append(keys, string([]byte{byte(i)}), string([]byte{'k', byte(i), 0}))
	}
	keys = append(keys, strings.Repeat("x", api.MaxKey), strings.Repeat("\xff\x00", 5000))
	for _, key := range keys {
		if got, want := bloom.Hash(key), modelHash(key).Uint64(); got != want {
			t.Errorf("Hash of %d bytes: %016x, want %016x", len(key), got, want)
		}
	}
}

// P6.1: bytes are taken one by one, in their order, whether they are text or not.
func TestHashTellsKeysApart(t *testing.T) {
	seen := map[uint64]string{}
	for _, key := range []string{"", "\x00", "\x00\x00", "ab", "ba", "a", "é", "e\u0301", "\xc3", "\xa9", "\ufffd", "\xe9"} {
		h := bloom.Hash(key)
		if other, ok := seen[h]; ok {
			t.Errorf("Hash of %q is that of %q", key, other)
		}
		seen[h] = key
	}
}

// P6.1: each number of bits that can be.
func TestProbes(t *testing.T) {
	for bits := 1; bits <= 64; bits++ {
		if n, e := bloom.Probes(bits); n != modelProbes(bits) || e != api.OK {
			t.Errorf("Probes(%d) = %d, %d", bits, n, e)
		}
	}
	for bits, want := range map[int]int{1: 1, 2: 1, 3: 2, 4: 2, 5: 3, 10: 6, 16: 11, 42: 28, 43: 29, 44: 30, 45: 30, 63: 30, 64: 30} {
		if n, e := bloom.Probes(bits); n != want || e != api.OK {
			t.Errorf("Probes(%d) = %d, %d, want %d", bits, n, e, want)
		}
	}
}

// P6.1
func TestProbesOfBitsThatCantBe(t *testing.T) {
	for _, bits := range wrongBits() {
		if n, e := bloom.Probes(bits); n != 0 || e != api.ErrArg {
			t.Errorf("Probes(%d) = %d, %d", bits, n, e)
		}
	}
}

// wrongBits is numbers of bits that can't be.
func wrongBits() []int {
	return []int{0, -1, -10, 65, 128, 256 + 10, 1<<32 + 10, math.MaxInt, math.MinInt}
}
