package block

import (
	"iter"

	"sediment/api"
	"sediment/codec"
)

// fixedSize is how many bytes a place has, and the number of places.
const fixedSize = 4

// Build is sorted entries as bytes.
func Build(how, restart int, l []api.Entry) ([]byte, api.Errno) {
	if !isHow(how) {
		return nil, api.ErrArg
	}
	if e := checkCounts(restart, len(l)); e != api.OK {
		return nil, e
	}
	for i, x := range l {
		if e := checkEntry(x); e != api.OK {
			return nil, e
		}
		if i > 0 && codec.Order(how, l[i-1].Key, x.Key) >= 0 {
			return nil, api.ErrArg
		}
	}
	// The bytes are counted ahead of being written: entries that share their values could be far more than a block may have.
	size := sizeOf(restart, l)
	if size > api.MaxBytes {
		return nil, api.ErrLong
	}
	return write(size, restart, l), api.OK
}

// Size is how many bytes entries have as a block.
func Size(restart int, l []api.Entry) (int, api.Errno) {
	if e := checkCounts(restart, len(l)); e != api.OK {
		return 0, e
	}
	for _, x := range l {
		if e := checkEntry(x); e != api.OK {
			return 0, e
		}
	}
	return sizeOf(restart, l), api.OK
}

func isHow(how int) bool { return how == api.Bytewise || how == api.Reverse }

// checkCounts tells whether so many entries can be a block's, with that many to a restart.
func checkCounts(restart, many int) api.Errno {
	switch {
	case restart < 1 || restart > api.MaxRestart:
		return api.ErrArg
	case many > api.MaxEntries:
		return api.ErrLong
	}
	return api.OK
}

// checkEntry tells whether an entry can be a block's, wherever it stands.
func checkEntry(x api.Entry) api.Errno {
	if e := codec.Check(x.Key); e != api.OK {
		return e
	}
	if len(x.Value) > api.MaxValue {
		return api.ErrLong
	}
	return api.OK
}

// sizeOf is how many bytes write writes.
func sizeOf(restart int, l []api.Entry) int {
	wholes := (len(l) + restart - 1) / restart
	n := fixedSize*max(wholes, 1) + fixedSize
	for p := range pieces(restart, l) {
		n += p.size()
	}
	return n
}

// write is the block of entries that can be one's, of so many bytes.
func write(size, restart int, l []api.Entry) []byte {
	b := make([]byte, 0, size)
	var places []byte
	for p := range pieces(restart, l) {
		if p.whole {
			places = append(places, codec.Fixed32(uint32(len(b)))...)
		}
		b = p.join(b)
	}
	if len(l) == 0 {
		places = codec.Fixed32(0)
	}
	b = append(b, places...)
	return append(b, codec.Fixed32(uint32(len(places)/fixedSize))...)
}

// piece is what is written of an entry.
type piece struct {
	whole  bool
	common int    // how many bytes of its key are those of the key ahead
	left   []byte // the key's other bytes
	value  string
}

// lengths are the numbers that stand ahead of a piece's bytes.
func (p piece) lengths() [3]int { return [3]int{p.common, len(p.left), len(p.value)} }

func (p piece) size() int {
	n := len(p.left) + len(p.value)
	for _, length := range p.lengths() {
		n += len(codec.Varint(uint64(length)))
	}
	return n
}

// join puts a piece behind b.
func (p piece) join(b []byte) []byte {
	for _, length := range p.lengths() {
		b = append(b, codec.Varint(uint64(length))...)
	}
	b = append(b, p.left...)
	return append(b, p.value...)
}

// pieces goes through what is written of entries, each of which can be a block's.
func pieces(restart int, l []api.Entry) iter.Seq[piece] {
	return func(yield func(piece) bool) {
		var ahead []byte
		for i, x := range l {
			key, _ := codec.Encode(x.Key)
			p := piece{whole: i%restart == 0, value: x.Value}
			if !p.whole {
				p.common = inCommon(ahead, key)
			}
			p.left = key[p.common:]
			if !yield(p) {
				return
			}
			ahead = key
		}
	}
}

// inCommon is how many bytes a and b have in common, from the first one on.
func inCommon(a, b []byte) int {
	least := min(len(a), len(b))
	for i := range least {
		if a[i] != b[i] {
			return i
		}
	}
	return least
}
