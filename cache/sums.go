package cache

import (
	"math"
	"math/bits"
)

// total is a sum of charges. It is kept whole, though it is told only up to 2^64 - 1: else what is taken from it again would leave too little.
type total struct{ high, low uint64 }

func (t *total) add(charge uint64) {
	low, carry := bits.Add64(t.low, charge, 0)
	t.high, t.low = t.high+carry, low
}

func (t *total) take(charge uint64) {
	low, borrow := bits.Sub64(t.low, charge, 0)
	t.high, t.low = t.high-borrow, low
}

// told is the sum, which stops at 2^64 - 1.
func (t *total) told() uint64 {
	if t.high > 0 {
		return math.MaxUint64
	}
	return t.low
}

// plus is a sum of two, which stops at 2^64 - 1.
func plus(a, b uint64) uint64 {
	sum, carry := bits.Add64(a, b, 0)
	if carry > 0 {
		return math.MaxUint64
	}
	return sum
}
