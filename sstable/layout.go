package sstable

import (
	"sediment/api"
	"sediment/codec"
)

// The sorts of units.
const (
	dataSort = iota
	filterSort
	indexSort
	rangesSort
	propertiesSort
	topSort
)

// How many bytes stand behind a unit's own (its sort and its sum), and how many the foot has.
const (
	tailSize = 5
	footSize = 36
)

// magic is the last bytes of every table.
const magic = "SEDIMENT"

// whole is the restart of all blocks but those of data: each of their entries is written whole.
const whole = 1

// handle is where a unit begins, and how many bytes it has ahead of its sort.
type handle struct{ place, length int }

// varints is a handle as an index has it.
func (h handle) varints() []byte {
	return append(codec.Varint(uint64(h.place)), codec.Varint(uint64(h.length))...)
}

// fixed is a handle as the foot has it.
func (h handle) fixed() []byte {
	return append(codec.Fixed32(uint32(h.place)), codec.Fixed32(uint32(h.length))...)
}

// sumOf is the sum of bytes as it stands behind them.
func sumOf(b []byte) []byte { return codec.Fixed32(codec.Mask(codec.Sum(b))) }

// named is a number that a table says of itself.
type named struct {
	name   string
	number uint64
}

// sayings is what a table says of itself, in the order of the names.
func sayings(p api.Props) []named {
	o := p.Options
	return []named{
		{"bits", uint64(o.Bits)},
		{"block", uint64(o.Block)},
		{"blocks", uint64(p.Blocks)},
		{"deletes", uint64(p.Deletes)},
		{"entries", uint64(p.Entries)},
		{"first", p.First},
		{"how", uint64(o.How)},
		{"last", p.Last},
		{"part", uint64(o.Part)},
		{"parts", uint64(p.Parts)},
		{"ranges", uint64(p.Ranges)},
		{"restart", uint64(o.Restart)},
	}
}

// propertyKey is the key under which a property stands.
func propertyKey(name string) api.Key { return api.Key{User: name, Kind: api.Put} }

// beginOf is the key under which a tombstone stands.
func beginOf(x api.Tombstone) api.Key {
	return api.Key{User: x.Begin, Seq: x.Seq, Kind: api.RangeDelete}
}

// endOf is the key up to which a tombstone reaches: it is ahead of all entries of the user key End, over which the tombstone does not lie.
func endOf(x api.Tombstone) api.Key {
	return api.Key{User: x.End, Seq: api.MaxSeq, Kind: api.RangeDelete}
}

// must gives up, by a panic with an error, where something is not as it should be.
func must(ok bool, e api.Errno) {
	if !ok {
		panic(e)
	}
}

// caught does what may give up, and is the error with which it did.
func caught(do func()) (e api.Errno) {
	defer func() {
		cause := recover()
		if cause == nil {
			return
		}
		why, ok := cause.(api.Errno)
		if !ok {
			// Nobody gave up: a fault of the program, which must not pass for one of what it was given.
			panic(cause)
		}
		e = why
	}()
	do()
	return api.OK
}
