package manifest

import (
	"strconv"
	"strings"
)

// A manifest's file has a number of at least digits digits behind beginning.
const (
	digits    = 6
	beginning = "MANIFEST-"
)

// firstFile is the number of the file in which a manifest begins.
const firstFile = 1

// current is the file that says which one counts, in a line of its own; currentNew is what it is called until it is whole.
const (
	current    = "CURRENT"
	currentNew = "CURRENT.new"
	lineFeed   = "\n"
)

// Name is the name of a number's file.
func Name(number uint64) string {
	s := strconv.FormatUint(number, 10)
	return beginning + strings.Repeat("0", max(digits-len(s), 0)) + s
}

// Number is the number of a name, and whether it is the Name of one.
func Number(name string) (uint64, bool) {
	n, err := strconv.ParseUint(strings.TrimPrefix(name, beginning), 10, 64)
	// Other texts are read as a number, too: such without a beginning, with too few or too many noughts.
	if err != nil || Name(n) != name {
		return 0, false
	}
	return n, true
}

// pointer is the bytes that say that a file counts.
func pointer(number uint64) []byte { return []byte(Name(number) + lineFeed) }

// pointed is the number of the file that counts by these bytes, and whether they say one.
func pointed(b []byte) (uint64, bool) {
	name, is := strings.CutSuffix(string(b), lineFeed)
	if !is {
		return 0, false
	}
	return Number(name)
}
