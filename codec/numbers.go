// Package codec is layer 1: numbers, sums and internal keys as bytes, and how keys are ordered: see DOC.md and doc/01-codec.md.
package codec

import (
	"slices"

	"sediment/api"
)

// A varint's byte holds groupBits bits of the number; more is added to it if another byte follows.
const (
	groupBits = 7
	more      = 1 << groupBits
)

// lastGroup is the place of the tenth byte: nine groups are 63 bits, so that only one bit more fits a number.
const lastGroup = 9

// Sizes of fixed numbers in bytes.
const (
	size32 = 4
	size64 = 8
)

// Varint is a number in groups of seven bits, the lowest first, in no more bytes than it needs.
func Varint(n uint64) []byte {
	var b []byte
	for n >= more {
		b = append(b, byte(n)|more)
		n >>= groupBits
	}
	return append(b, byte(n))
}

// ReadVarint is the number with which b begins, and how many bytes it has.
func ReadVarint(b []byte) (uint64, int, api.Errno) {
	var n uint64
	for i, c := range b {
		if i == lastGroup && c > 1 {
			// Too great, or one that goes on, which can only be too great or too long: whatever follows, it is refused here.
			return 0, 0, api.ErrCorrupt
		}
		if i > 0 && c == 0 {
			// A highest group of nought says nothing: the number needs a byte less.
			return 0, 0, api.ErrCorrupt
		}
		n |= uint64(c%more) << (groupBits * i)
		if c < more {
			return n, i + 1, api.OK
		}
	}
	return 0, 0, api.ErrShort
}

// Fixed32 is a number in four bytes, the lowest first.
func Fixed32(n uint32) []byte { return fixed(uint64(n), size32) }

// Fixed64 is a number in eight bytes, the lowest first.
func Fixed64(n uint64) []byte { return fixed(n, size64) }

// ReadFixed32 is the number of b's first four bytes.
func ReadFixed32(b []byte) (uint32, api.Errno) {
	if len(b) < size32 {
		return 0, api.ErrShort
	}
	return uint32(readFixed(b[:size32])), api.OK
}

// ReadFixed64 is the number of b's first eight bytes.
func ReadFixed64(b []byte) (uint64, api.Errno) {
	if len(b) < size64 {
		return 0, api.ErrShort
	}
	return readFixed(b[:size64]), api.OK
}

func fixed(n uint64, size int) []byte {
	b := make([]byte, size)
	for i := range size {
		b[i] = byte(n >> (8 * i))
	}
	return b
}

// readFixed goes backward because the highest byte, which is shifted up furthest, stands last.
func readFixed(b []byte) uint64 {
	var n uint64
	for _, c := range slices.Backward(b) {
		n = n<<8 | uint64(c)
	}
	return n
}
