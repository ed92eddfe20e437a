package bloom

import (
	"iter"

	"sediment/api"
)

// What a hash is made with: it begins at basis and is multiplied by prime with each byte (FNV-1a). At its end spread (2^64 by the golden ratio) carries the bits upward, between two shifts that bring them down again.
const (
	basis       = 14695981039346656037
	prime       = 1099511628211
	spread      = 11400714819323198485
	firstShift  = 32
	secondShift = 29
)

// Probes for each bit of a key, in hundredths: about ln 2, with which half of a filter's bits are set, and fewest keys are taken for others.
const (
	probesOfBits = 69
	hundred      = 100
)

// Hash is a key's number.
func Hash(key string) uint64 {
	h := uint64(basis)
	for i := range len(key) {
		h = (h ^ uint64(key[i])) * prime
	}
	h = (h ^ h>>firstShift) * spread
	return h ^ h>>secondShift
}

// Probes is how many bits are looked at, with so many for each key.
func Probes(bits int) (int, api.Errno) {
	if bits < 1 || bits > api.MaxBits {
		return 0, api.ErrArg
	}
	return min(max(bits*probesOfBits/hundred, 1), api.MaxProbes), api.OK
}

// probes tells a key's bits in a filter. One hash makes them all: its low half is where they begin, its high half how far each is from the one ahead.
func probes(filter []byte, key string) iter.Seq[uint32] {
	end := len(filter) - 1
	size := uint32(end) * byteBits
	h := Hash(key)
	return func(yield func(uint32) bool) {
		at := uint32(h)
		// A step that is odd comes round to no number again ahead of all 2^32.
		step := uint32(h>>32) | 1
		for range filter[end] {
			if !yield(at % size) {
				return
			}
			at += step
		}
	}
}
