package picker

import (
	"cmp"
	"math"
	"math/bits"
	"slices"

	"sediment/api"
	"sediment/edit"
)

// Limits is how much each level may have: of level 0 files, of the others bytes.
func Limits(o api.Options) [api.Levels]uint64 {
	var limits [api.Levels]uint64
	limits[0] = uint64(max(o.Trigger, 0))
	limits[1] = o.Base
	for level := 2; level < len(limits); level++ {
		limits[level] = times(limits[level-1], o.Times)
	}
	limits[len(limits)-1] = math.MaxUint64
	return limits
}

// Scores is how much each level wants to be put together, in thousandths, the greatest first.
func Scores(o api.Options, v api.Version) ([]api.Score, api.Errno) {
	if !canBe(o) {
		return nil, api.ErrArg
	}
	if why := edit.Check(o.How, v); why != api.OK {
		return nil, why
	}
	limits := Limits(o)
	var scores []api.Score
	for level := range api.Levels - 1 {
		scores = append(scores, api.Score{Level: level, Score: times(has(level, v.Levels[level]), wanted) / limits[level]})
	}
	slices.SortStableFunc(scores, func(a, b api.Score) int { return cmp.Compare(b.Score, a.Score) })
	return scores, api.OK
}

// has is how much a level has of what its limit counts. edit.Size would begin anew behind 2^64 - 1 bytes, and a level that is much too great look small.
func has(level int, files []api.File) uint64 {
	if level == 0 {
		return uint64(len(files))
	}
	var n uint64
	for _, f := range files {
		n = plus(n, f.Size)
	}
	return n
}

// plus is a sum that stops at the greatest number.
func plus(a, b uint64) uint64 {
	sum, over := bits.Add64(a, b, 0)
	if over > 0 {
		return math.MaxUint64
	}
	return sum
}

// times is a product that stops at the greatest number.
func times(a, b uint64) uint64 {
	over, product := bits.Mul64(a, b)
	if over > 0 {
		return math.MaxUint64
	}
	return product
}
