package edit

import (
	"math"

	"sediment/api"
	"sediment/codec"
)

// mostKey is how many bytes an internal key has at most: those of its user key, and a fixed number behind them.
const mostKey = api.MaxKey + 8

// Decode is the edit whose bytes b are.
func Decode(b []byte) (api.Edit, api.Errno) {
	r := reader{rest: b}
	if why := caught(r.all); why != api.OK {
		return api.Edit{}, why
	}
	return r.edit, api.OK
}

// caught is the error with which a reader gives up, or OK.
func caught(read func()) (why api.Errno) {
	defer func() {
		cause := recover()
		if cause == nil {
			return
		}
		given, ok := cause.(api.Errno)
		if !ok {
			// No reader's: a fault of the program, which must not pass for one of the bytes.
			panic(cause)
		}
		why = given
	}()
	read()
	return api.OK
}

// reader is the bytes that are still to be read, and the edit as far as it was read. It gives up by a panic with the error (an api.Errno).
type reader struct {
	rest []byte
	edit api.Edit
}

// must gives up where the bytes are not what they should be.
func must(ok bool) {
	if !ok {
		panic(api.ErrCorrupt)
	}
}

// all reads part by part: only the first one must be there.
func (r *reader) all() {
	last := r.number()
	must(last == partFamily)
	r.edit.Family = uint32(r.varint(math.MaxUint32))
	for len(r.rest) > 0 {
		next := r.number()
		must(next > last || next == last && isRepeated(next))
		r.part(next)
		last = next
	}
}

// isRepeated tells whether a part may be there several times.
func isRepeated(part int) bool { return part == partGone || part == partAdded }

// number is the one with which a part begins.
func (r *reader) number() int { return int(r.take(1)[0]) }

// part reads what stands behind a part's number.
func (r *reader) part(number int) {
	e := &r.edit
	switch number {
	case partMake:
		e.Make, e.How = true, int(r.varint(api.Reverse))
		e.Name = r.name()
	case partDrop:
		must(!e.Make)
		e.Drop = true
	case partLog:
		e.HasLog, e.Log = true, r.whatever()
	case partNext:
		e.HasNext, e.Next = true, r.whatever()
	case partSeq:
		e.HasSeq, e.Seq = true, r.whatever()
	case partGone:
		r.room()
		e.Gone = append(e.Gone, api.Gone{Level: r.level(), Number: r.whatever()})
	case partAdded:
		r.room()
		e.Added = append(e.Added, api.Added{Level: r.level(), File: r.file()})
	default:
		panic(api.ErrCorrupt)
	}
}

// room wants that an edit may have a table more.
func (r *reader) room() { must(len(r.edit.Gone)+len(r.edit.Added) < api.MaxFilesOf) }

func (r *reader) level() int { return int(r.varint(api.Levels - 1)) }

func (r *reader) name() string {
	n := r.varint(api.MaxName)
	must(n > 0)
	return string(r.take(int(n)))
}

func (r *reader) file() api.File {
	var f api.File
	f.Number, f.Size = r.whatever(), r.whatever()
	f.Entries, f.Ranges = r.whatever(), r.whatever()
	f.Smallest, f.Largest = r.key(), r.key()
	return f
}

func (r *reader) key() api.Key {
	n := r.varint(mostKey)
	k, why := codec.Decode(r.take(int(n)))
	must(why == api.OK) // also of too few bytes: the edit's have not come to an end
	return k
}

// whatever is a number of whatever size.
func (r *reader) whatever() uint64 { return r.varint(math.MaxUint64) }

// varint is a number that is at most most.
func (r *reader) varint(most uint64) uint64 {
	n, size, why := codec.ReadVarint(r.rest)
	if why != api.OK {
		panic(why)
	}
	must(n <= most)
	r.rest = r.rest[size:]
	return n
}

// take is the next n bytes.
func (r *reader) take(n int) []byte {
	if n > len(r.rest) {
		panic(api.ErrShort)
	}
	b := r.rest[:n]
	r.rest = r.rest[n:]
	return b
}
