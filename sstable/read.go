package sstable

import (
	"bytes"
	"slices"

	"sediment/api"
	"sediment/block"
	"sediment/codec"
	"sediment/rangedel"
)

// content is what a table's bytes were read into.
type content struct {
	props  api.Props
	blocks []dataBlock
	parts  []part
	tombs  []api.Tombstone
	units  [][2]int
	size   int
}

// dataBlock is some of the entries, and the key of the last one of them.
type dataBlock struct {
	*block.Block
	last api.Key
}

// part is what is known of some blocks together: their last key, and which user keys may be in them (all of them, if there is no filter).
type part struct {
	last   api.Key
	filter []byte
}

// reader goes from the foot of what should be a table to all of its units. It gives up by a panic with ErrCorrupt.
//
// It reads only what a table is made of. Then that is written anew, and held against the bytes that were read: so sums, sorts, places, filters, where blocks were cut, how keys were shortened, and whatever else the bytes say are just those of a table, or it is none.
type reader struct {
	content
	how     int
	bytes   []byte // the units
	left    int    // how many of these may still be taken: none is a part of two units
	entries []api.Entry
}

// read is a table that was read.
func read(how int, b []byte) (content, api.Errno) {
	r := reader{how: how}
	if e := caught(func() { r.table(b) }); e != api.OK {
		return content{}, e
	}
	return r.content, api.OK
}

// hold gives up where the bytes are no table's.
func hold(ok bool) { must(ok, api.ErrCorrupt) }

func (r *reader) table(b []byte) {
	hold(len(b) >= footSize && len(b) <= api.MaxBytes)
	r.left = len(b) - footSize
	r.bytes = b[:r.left]
	foot := handlesOf(b[r.left:])
	o := r.options(foot[1])
	r.tombs = r.ranges(foot[0])
	for _, x := range r.block(r.how, foot[2]).Entries() {
		r.part(x, o.Bits > 0)
	}
	hold(checkEntries(r.how, r.entries) == api.OK)
	w, e := write(o, r.entries, r.tombs)
	hold(e == api.OK && bytes.Equal(w.bytes, b))
	r.props, r.units, r.size = w.props, w.units, len(b)
}

// handlesOf is the handles of a foot: of the ranges, the properties and the top.
func handlesOf(foot []byte) [3]handle {
	var l [3]handle
	for i := range l {
		l[i] = handle{fixed(foot), fixed(foot[4:])}
		foot = foot[8:]
	}
	return l
}

// fixed is the number of b's first four bytes, which are there.
func fixed(b []byte) int {
	n, _ := codec.ReadFixed32(b)
	return count(uint64(n))
}

// count is a number of something that a table has, as far as one can have so many.
func count(n uint64) int {
	hold(n <= api.MaxBytes)
	return int(n)
}

// unit is what a unit has ahead of its sort.
func (r *reader) unit(h handle) []byte {
	end := h.place + h.length
	r.left -= h.length + tailSize
	hold(r.left >= 0 && end <= len(r.bytes))
	return r.bytes[h.place:end]
}

func (r *reader) block(how int, h handle) *block.Block {
	b, e := block.Open(how, r.unit(h))
	hold(e == api.OK)
	return b
}

// options is those of which the properties speak, if they can be.
func (r *reader) options(h handle) api.TableOptions {
	b := r.block(api.Bytewise, h)
	number := func(name string) int {
		value, _ := b.Get(propertyKey(name))
		n, _ := varint([]byte(value)) // nothing is no number
		return n
	}
	o := api.TableOptions{How: number("how"), Block: number("block"), Restart: number("restart"), Part: number("part"), Bits: number("bits")}
	hold(o.How == r.how && Check(o) == api.OK)
	return o
}

// varint is the number with which b begins, and what stands behind it.
func varint(b []byte) (int, []byte) {
	n, size, e := codec.ReadVarint(b)
	hold(e == api.OK)
	return count(n), b[size:]
}

// handleOf is the handle with which b begins, and what stands behind it.
func handleOf(b []byte) (handle, []byte) {
	var h handle
	h.place, b = varint(b)
	h.length, b = varint(b)
	return h, b
}

// ranges is the tombstones of fragments that can be.
func (r *reader) ranges(h handle) []api.Tombstone {
	tombs, e := rangedel.Join(r.how, fragmentsOf(r.block(r.how, h).Entries()))
	hold(e == api.OK)
	return tombs
}

// fragmentsOf is the fragments whose tombstones entries are, one by one. Those of one fragment have the same Begin, which no other one has. (If they have not the same End, they are not those that are written anew.)
func fragmentsOf(l []api.Entry) []api.Fragment {
	var fragments []api.Fragment
	for _, x := range l {
		i := len(fragments) - 1
		if i < 0 || fragments[i].Begin != x.User {
			fragments = append(fragments, api.Fragment{Begin: x.User, End: x.Value})
			i++
		}
		fragments[i].Seqs = append(fragments[i].Seqs, x.Seq)
	}
	return fragments
}

// part reads all of which an entry of the top speaks.
func (r *reader) part(x api.Entry, filtered bool) {
	index, rest := handleOf([]byte(x.Value))
	p := part{last: x.Key}
	if filtered {
		h, _ := handleOf(rest)
		p.filter = slices.Clone(r.unit(h))
	}
	r.parts = append(r.parts, p)
	for _, y := range r.block(r.how, index).Entries() {
		h, _ := handleOf([]byte(y.Value))
		r.data(y.Key, h)
	}
}

func (r *reader) data(last api.Key, h handle) {
	b := r.block(r.how, h)
	r.blocks = append(r.blocks, dataBlock{b, last})
	r.entries = append(r.entries, b.Entries()...)
}
