package sstable

import (
	"iter"
	"slices"

	"sediment/api"
	"sediment/block"
	"sediment/bloom"
	"sediment/codec"
	"sediment/rangedel"
)

// limits are the least and the greatest number that an option can be: of How, Block, Restart, Part, Bits.
var limits = [5][2]int{{api.Bytewise, api.Reverse}, {1, 1 << 20}, {1, api.MaxRestart}, {1, 1 << 10}, {0, api.MaxBits}}

// Check tells whether options can be.
func Check(o api.TableOptions) api.Errno {
	for i, n := range [5]int{o.How, o.Block, o.Restart, o.Part, o.Bits} {
		if n < limits[i][0] || n > limits[i][1] {
			return api.ErrArg
		}
	}
	return api.OK
}

// Build is entries and tombstones as the bytes of a table.
func Build(o api.TableOptions, l []api.Entry, tombs []api.Tombstone) ([]byte, api.Errno) {
	if e := Check(o); e != api.OK {
		return nil, e
	}
	if e := checkEntries(o.How, l); e != api.OK {
		return nil, e
	}
	fragments, e := rangedel.Split(o.How, tombs)
	if e != api.OK {
		return nil, e
	}
	apart, _ := rangedel.Join(o.How, fragments) // what Split tells can always be joined
	w, e := write(o, l, apart)
	if e != api.OK {
		return nil, e
	}
	return w.bytes, api.OK
}

// checkEntries tells whether entries can be a table's.
func checkEntries(how int, l []api.Entry) api.Errno {
	if len(l) > api.MaxEntries {
		return api.ErrLong
	}
	for i, x := range l {
		if e := checkEntry(x); e != api.OK {
			return e
		}
		if i > 0 && codec.Order(how, l[i-1].Key, x.Key) >= 0 {
			return api.ErrArg
		}
	}
	return api.OK
}

// checkEntry tells whether an entry can be a table's, wherever it stands.
func checkEntry(x api.Entry) api.Errno {
	if e := codec.Check(x.Key); e != api.OK {
		return e
	}
	switch {
	case x.Kind == api.RangeDelete:
		return api.ErrArg
	case len(x.Value) > api.MaxValue:
		return api.ErrLong
	}
	return api.OK
}

// writer lays units one behind the other. It gives up by a panic with ErrLong, as soon as they are too long.
type writer struct {
	options api.TableOptions
	props   api.Props
	bytes   []byte
	units   [][2]int // where each begins, and how many bytes it has in all
}

// write is the table of entries that can be, and of the tombstones of fragments that can be.
func write(o api.TableOptions, l []api.Entry, tombs []api.Tombstone) (writer, api.Errno) {
	w := writer{options: o}
	if e := caught(func() { w.table(l, tombs) }); e != api.OK {
		return writer{}, e
	}
	return w, api.OK
}

func (w *writer) table(l []api.Entry, tombs []api.Tombstone) {
	data := w.data(l)
	parts := w.parts(data)
	w.props = propsOf(l, tombs)
	w.props.Options, w.props.Blocks, w.props.Parts = w.options, len(data), len(parts)
	ranges := w.block(rangesSort, w.options.How, whole, rangeEntries(tombs))
	properties := w.block(propertiesSort, api.Bytewise, whole, propertyEntries(w.props))
	top := w.block(topSort, w.options.How, whole, parts)
	w.foot(ranges, properties, top)
}

// laid is a data block that was written: its entries, and where they lie.
type laid struct {
	entries []api.Entry
	handle
}

// last is the key of a data block's last entry.
func (d laid) last() api.Key { return d.entries[len(d.entries)-1].Key }

func (w *writer) data(l []api.Entry) []laid {
	var data []laid
	for entries := range cut(w.options, l) {
		h := w.block(dataSort, w.options.How, w.options.Restart, entries)
		data = append(data, laid{entries, h})
	}
	return data
}

// parts writes filters and indexes, and is what the top has of them.
func (w *writer) parts(data []laid) []api.Entry {
	var top []api.Entry
	for part := range slices.Chunk(data, w.options.Part) {
		var filter handle
		if w.options.Bits > 0 {
			filter = w.filter(part)
		}
		var index []api.Entry
		for _, d := range part {
			index = append(index, api.Entry{Key: d.last(), Value: string(d.varints())})
		}
		h := w.block(indexSort, w.options.How, whole, index)
		last := part[len(part)-1].last()
		top = append(top, api.Entry{Key: last, Value: string(append(h.varints(), filter.varints()...))})
	}
	return top
}

func (w *writer) filter(part []laid) handle {
	var keys []string
	for _, d := range part {
		for _, x := range d.entries {
			keys = append(keys, x.User)
		}
	}
	b, _ := bloom.Build(keys, w.options.Bits) // Bits can be, and there are never too many keys
	return w.unit(filterSort, b)
}

func (w *writer) block(sort byte, how, restart int, l []api.Entry) handle {
	b, e := block.Build(how, restart, l)
	must(e == api.OK, e)
	return w.unit(sort, b)
}

func (w *writer) unit(sort byte, b []byte) handle {
	h := handle{place: len(w.bytes), length: len(b)}
	must(h.place+h.length+tailSize+footSize <= api.MaxBytes, api.ErrLong)
	w.bytes = append(append(w.bytes, b...), sort)
	w.bytes = append(w.bytes, sumOf(w.bytes[h.place:])...)
	w.units = append(w.units, [2]int{h.place, h.length + tailSize})
	return h
}

func (w *writer) foot(l ...handle) {
	place := len(w.bytes)
	for _, h := range l {
		w.bytes = append(w.bytes, h.fixed()...)
	}
	w.bytes = append(w.bytes, sumOf(w.bytes[place:])...)
	w.bytes = append(w.bytes, magic...)
	w.units = append(w.units, [2]int{place, footSize})
}

// cut goes through the entries of each data block.
func cut(o api.TableOptions, l []api.Entry) iter.Seq[[]api.Entry] {
	return func(yield func([]api.Entry) bool) {
		first, size := 0, 0
		for i := range l {
			size += growth(o.Restart, l[first:i+1])
			if size < o.Block && i+1 < len(l) {
				continue
			}
			if !yield(l[first : i+1]) {
				return
			}
			first, size = i+1, 0
		}
	}
}

// growth is how many bytes a block has more by its last entry. What is written of that hangs on the entry ahead alone, and on whether it is whole: so block.Size is asked of these two, not of all of them again with each entry.
func growth(restart int, l []api.Entry) int {
	n := len(l) - 1
	if n == 0 {
		return sizeOf(whole, l)
	}
	if n%restart == 0 {
		restart = whole
	}
	return sizeOf(restart, l[n-1:]) - sizeOf(restart, l[n-1:n])
}

// sizeOf is how many bytes entries that can be have as a block.
func sizeOf(restart int, l []api.Entry) int {
	n, _ := block.Size(restart, l)
	return n
}

// propsOf is what a table says of its entries and tombstones.
func propsOf(l []api.Entry, tombs []api.Tombstone) api.Props {
	p := api.Props{Entries: len(l), Ranges: len(tombs)}
	var seqs []uint64
	for _, x := range l {
		if x.Kind == api.Delete {
			p.Deletes++
		}
		seqs = append(seqs, x.Seq)
	}
	for _, x := range tombs {
		seqs = append(seqs, x.Seq)
	}
	if len(seqs) > 0 {
		p.First, p.Last = slices.Min(seqs), slices.Max(seqs)
	}
	return p
}

// rangeEntries is tombstones as a block has them.
func rangeEntries(tombs []api.Tombstone) []api.Entry {
	var l []api.Entry
	for _, x := range tombs {
		l = append(l, api.Entry{Key: beginOf(x), Value: x.End})
	}
	return l
}

// propertyEntries is what a table says of itself as a block has it.
func propertyEntries(p api.Props) []api.Entry {
	var l []api.Entry
	for _, x := range sayings(p) {
		l = append(l, api.Entry{Key: propertyKey(x.name), Value: string(codec.Varint(x.number))})
	}
	return l
}
