package edit

import (
	"slices"

	"sediment/api"
	"sediment/codec"
)

// Overlaps is a level's files that have keys between two, these included; of level 0 also those that hang together with them.
func Overlaps(how int, v api.Version, level int, begin, end string) ([]api.File, api.Errno) {
	if !isLevel(level) || !isHow(how) {
		return nil, api.ErrArg
	}
	files := v.Levels[level]
	told := make([]bool, len(files))
	for i, f := range files {
		told[i] = reaches(how, f, begin, end)
	}
	if level == 0 {
		spread(how, files, told)
	}
	var l []api.File
	for i, f := range files {
		if told[i] {
			l = append(l, f)
		}
	}
	return l, api.OK
}

// reaches tells whether a file lies over the range between two user keys, these included.
func reaches(how int, f api.File, begin, end string) bool {
	return codec.Compare(how, f.Largest.User, begin) >= 0 && codec.Compare(how, f.Smallest.User, end) <= 0
}

// spread tells, too, whichever file lies over one that is told, however it came to be told. Each file that is told is held once against those that are left.
func spread(how int, files []api.File, told []bool) {
	var work, left []int
	for i := range files {
		if told[i] {
			work = append(work, i)
		} else {
			left = append(left, i)
		}
	}
	for len(work) > 0 {
		f := files[work[0]]
		work = work[1:]
		still := left[:0]
		for _, i := range left {
			if reaches(how, files[i], f.Smallest.User, f.Largest.User) {
				told[i] = true
				work = append(work, i)
			} else {
				still = append(still, i)
			}
		}
		left = still
	}
}

// Files is the numbers of all files, rising, each once.
func Files(v api.Version) []uint64 {
	var l []uint64
	for _, files := range v.Levels {
		for _, f := range files {
			l = append(l, f.Number)
		}
	}
	slices.Sort(l)
	return slices.Compact(l)
}

// Size is how many bytes a level's files have in all, modulo 2^64.
func Size(v api.Version, level int) uint64 {
	if !isLevel(level) {
		return 0
	}
	var n uint64
	for _, f := range v.Levels[level] {
		n += f.Size
	}
	return n
}
