package tables

import (
	"strconv"
	"strings"
)

// A table's file has a number of at least digits digits ahead of ending.
const (
	digits = 6
	ending = ".sst"
)

// Name is the name of a number's file.
func Name(number uint64) string {
	s := strconv.FormatUint(number, 10)
	return strings.Repeat("0", max(digits-len(s), 0)) + s + ending
}

// Number is the number of a name, and whether it is the Name of one.
func Number(name string) (uint64, bool) {
	n, err := strconv.ParseUint(strings.TrimSuffix(name, ending), 10, 64)
	// Other texts are read as a number, too: such with another ending, with too few or too many noughts.
	if err != nil || Name(n) != name {
		return 0, false
	}
	return n, true
}
