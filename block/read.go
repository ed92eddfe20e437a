package block

import (
	"sediment/api"
	"sediment/codec"
)

// Check tells what is wrong with bytes that should be a block.
func Check(how int, b []byte) api.Errno {
	_, e := look(how, b)
	return e
}

// look is a block whose bytes are a part of b, if b is one.
func look(how int, b []byte) (Block, api.Errno) {
	if !isHow(how) {
		return Block{}, api.ErrArg
	}
	if len(b) > api.MaxBytes {
		return Block{}, api.ErrLong
	}
	if len(b) < 2*fixedSize {
		return Block{}, api.ErrShort
	}
	rest, last := b[:len(b)-fixedSize], b[len(b)-fixedSize:]
	many := int64(fixed(last)) // four times as much must not wrap round
	if fixedSize*many > int64(len(rest)) {
		return Block{}, api.ErrShort
	}
	end := len(rest) - fixedSize*int(many)
	x := Block{how: how, bytes: rest[:end], places: placesOf(rest[end:])}
	var e api.Errno
	if x.count, e = counted(x); e != api.OK {
		return Block{}, e
	}
	return x, api.OK
}

// fixed is the number of b's first four bytes, which are there.
func fixed(b []byte) uint32 {
	n, _ := codec.ReadFixed32(b)
	return n
}

// placesOf is the places that all of b says.
func placesOf(b []byte) []uint32 {
	l := make([]uint32, 0, len(b)/fixedSize)
	for ; len(b) > 0; b = b[fixedSize:] {
		l = append(l, fixed(b))
	}
	return l
}

// counted reads all of a block's entries and holds its places against them, and catches a reader that gives up; it is how many entries there are.
func counted(x Block) (count int, e api.Errno) {
	defer func() {
		cause := recover()
		if cause == nil {
			return
		}
		why, ok := cause.(api.Errno)
		if !ok {
			// No reader's: a fault of the program, which must not pass for one of the bytes.
			panic(cause)
		}
		count, e = 0, why
	}()
	must(len(x.places) > 0 && x.places[0] == 0)
	left := x.places
	r := reader{rest: x.bytes}
	for place := 0; r.more(); place = len(x.bytes) - len(r.rest) {
		ahead := r.key
		common := r.next()
		must(count == 0 || codec.Order(x.how, ahead, r.key) < 0)
		count++
		must(count <= api.MaxEntries)
		// Entries begin ever further on: a place that is none of their beginnings, or no greater than the one ahead, is never come to.
		if common == 0 && len(left) > 0 && int64(left[0]) == int64(place) {
			left = left[1:]
		}
	}
	if count == 0 {
		left = left[1:] // the place 0 of no entries
	}
	must(len(left) == 0)
	return count, api.OK
}

// must gives up where the bytes are not what they should be.
func must(ok bool) {
	if !ok {
		panic(api.ErrCorrupt)
	}
}

// reader goes through entries from the left, from a whole one on. It gives up by a panic with the error (an api.Errno), which those of a block that was opened never bring about.
type reader struct {
	rest  []byte  // what is still to be read
	bytes []byte  // the bytes of the key that was read last
	key   api.Key // that key
	value []byte  // and its value, a part of what was read
}

func (r *reader) more() bool { return len(r.rest) > 0 }

// next reads an entry, and is how many bytes its key has in common with the one ahead.
func (r *reader) next() int {
	var lengths [3]int
	for i, most := range [3]int{len(r.bytes), len(r.rest), api.MaxValue} {
		lengths[i] = r.varint(most)
	}
	common, left, value := lengths[0], lengths[1], lengths[2]
	r.bytes = append(r.bytes[:common], r.take(left)...)
	key, e := codec.Decode(r.bytes)
	must(e == api.OK)
	r.key, r.value = key, r.take(value)
	return common
}

// entry is the entry that was read last.
func (r *reader) entry() api.Entry { return api.Entry{Key: r.key, Value: string(r.value)} }

// varint is a number that is at most most.
func (r *reader) varint(most int) int {
	n, size, e := codec.ReadVarint(r.rest)
	must(e == api.OK && n <= uint64(most))
	r.rest = r.rest[size:]
	return int(n)
}

// take is the next n bytes.
func (r *reader) take(n int) []byte {
	must(n <= len(r.rest))
	b := r.rest[:n]
	r.rest = r.rest[n:]
	return b
}
