package wal

import (
	"sediment/api"
	"sediment/codec"
)

// The kinds of fragments: which part of its record one is. In a log that is not recycled they are the types.
const (
	none = iota
	whole
	first
	within
	last
)

// recycledMore is by how much a recycled log's types are greater.
const recycledMore = last

// Where the parts of a head begin. What is summed begins with the type.
const (
	lengthAt  = 4
	typeAt    = 6
	numberAt  = 7 // of a recycled log; any other one's head ends here
	numberEnd = 11
)

// layout is how a log's fragments are written: a recycled one's say the log's number, so that what is left of an older log is told from them.
type layout struct {
	log      uint32
	recycled bool
}

// head is how many bytes the head of a fragment has.
func (l layout) head() int {
	if l.recycled {
		return numberEnd
	}
	return numberAt
}

// tail is how many bytes the block has from a place on, if they are too few for a head; else 0.
func (l layout) tail(at int) int {
	if left := leftInBlock(at); left < l.head() {
		return left
	}
	return 0
}

// write puts a fragment behind what is there.
func (l layout) write(out []byte, kind int, b []byte) []byte {
	fragment := append(make([]byte, lengthAt, l.head()+len(b)), byte(len(b)), byte(len(b)>>8))
	if l.recycled {
		fragment = append(fragment, byte(kind+recycledMore))
		fragment = append(fragment, codec.Fixed32(l.log)...)
	} else {
		fragment = append(fragment, byte(kind))
	}
	fragment = append(fragment, b...)
	copy(fragment, seal(fragment))
	return append(out, fragment...)
}

// kind is the kind of fragment that a type says; none, if that is no type of this log.
func (l layout) kind(says byte) int {
	n := int(says)
	if l.recycled {
		n -= recycledMore
	}
	if n < whole || n > last {
		return none
	}
	return n
}

// length is how many bytes a fragment says that it has behind its head.
func length(fragment []byte) int {
	return int(fragment[lengthAt]) + int(fragment[lengthAt+1])<<8
}

// seal is the first bytes of a fragment, by which the others are told from what they were not.
func seal(fragment []byte) []byte {
	return codec.Fixed32(codec.Mask(codec.Sum(fragment[typeAt:])))
}

// kindOf is the kind of a fragment, by whether its record begins with it, and ends.
func kindOf(begins, ends bool) int {
	switch {
	case begins && ends:
		return whole
	case begins:
		return first
	case ends:
		return last
	}
	return within
}

// leftInBlock is how many bytes a block has from a place on; where one ends, the next one's.
func leftInBlock(at int) int { return api.Block - at%api.Block }
