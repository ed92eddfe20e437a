package codec

import "math/bits"

// castagnoli is the polynomial of CRC-32C, its bits the other way about, as the register is shifted down.
const castagnoli = 0x82f63b78

// A sum is hidden where it is kept, for a sum over bytes that hold sums would tell little.
const (
	maskTurn  = 15
	maskDelta = 0xa282ead8
)

// Sum is the CRC-32C of bytes.
func Sum(b []byte) uint32 {
	register := ^uint32(0)
	for _, c := range b {
		register ^= uint32(c)
		for range 8 {
			out := register & 1
			register >>= 1
			if out == 1 {
				register ^= castagnoli
			}
		}
	}
	return ^register
}

// Mask hides a sum.
func Mask(sum uint32) uint32 { return bits.RotateLeft32(sum, -maskTurn) + maskDelta }

// Unmask is the sum that Mask hid.
func Unmask(sum uint32) uint32 { return bits.RotateLeft32(sum-maskDelta, maskTurn) }
