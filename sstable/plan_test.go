package sstable_test

import (
	"slices"
	"strings"
	"testing"

	"sediment/api"
	"sediment/bloom"
	"sediment/codec"
)

// plan is of what a table is laid out, by the chapter's words. Whoever lays it may change what is written: so bytes are made that are nearly a table's.
type plan struct {
	options api.TableOptions
	data    [][]api.Entry // the blocks
	ranges  []api.Entry
	change  func(*unit)         // what is laid (nil: as it is)
	foot    func([]byte) []byte // the foot's handles (nil: as they are)
	magic   string
}

// unit is what is laid: of which sort, the how-manieth of that one; of a block its entries, or bytes that stand in their place.
type unit struct {
	sort    byte
	number  int
	restart int
	entries []api.Entry
	bytes   []byte
	ahead   string // what lies ahead of it
	seal    uint32 // what is wrong with its sum
	place   uint32 // what is wrong with what is said of its place
}

// planOf is the plan of entries and of tombstones of fragments.
func planOf(o api.TableOptions, l []api.Entry, tombs []api.Tombstone) plan {
	p := plan{options: o, magic: "SEDIMENT"}
	first := 0
	for i := range l {
		if i+1 == len(l) || len(blockBytes(o.Restart, l[first:i+1])) >= o.Block {
			p.data = append(p.data, l[first:i+1])
			first = i + 1
		}
	}
	for _, x := range tombs {
		p.ranges = append(p.ranges, entry(x.Begin, x.Seq, api.RangeDelete, x.End))
	}
	return p
}

// again is the plan of the same entries and tombstones with other options.
func (p plan) again(o api.TableOptions) plan {
	q := planOf(o, slices.Concat(p.data...), nil)
	q.ranges = p.ranges
	return q
}

// blockBytes is a block, of whatever entries.
func blockBytes(restart int, l []api.Entry) []byte {
	var b, places []byte
	ahead := ""
	for i, x := range l {
		k, common := keyBytes(x.Key), 0
		if i%restart == 0 {
			places = append(places, codec.Fixed32(uint32(len(b)))...)
		} else {
			for common < len(k) && strings.HasPrefix(ahead, k[:common+1]) {
				common++
			}
		}
		for _, n := range []int{common, len(k) - common, len(x.Value)} {
			b = append(b, codec.Varint(uint64(n))...)
		}
		b = append(append(b, k[common:]...), x.Value...)
		ahead = k
	}
	if len(l) == 0 {
		places = codec.Fixed32(0)
	}
	b = append(b, places...)
	return append(b, codec.Fixed32(uint32(len(places)/4))...)
}

func keyBytes(k api.Key) string { return k.User + string(codec.Fixed64(k.Seq*256+uint64(k.Kind))) }

// sealed is bytes and their sum.
func sealed(b []byte, wrong uint32) []byte {
	return append(b[:len(b):len(b)], codec.Fixed32(codec.Mask(codec.Sum(b))^wrong)...)
}

// layer lays units.
type layer struct {
	plan
	bytes  []byte
	counts [6]int
}

// lay puts a unit behind the others, and is where it begins, and how long it is.
func (y *layer) lay(u unit) [2]uint32 {
	u.number = y.counts[u.sort]
	y.counts[u.sort]++
	if y.change != nil {
		y.change(&u)
	}
	if u.bytes == nil {
		u.bytes = blockBytes(u.restart, u.entries)
	}
	y.bytes = append(y.bytes, u.ahead...)
	place := uint32(len(y.bytes))
	y.bytes = append(y.bytes, sealed(append(u.bytes[:len(u.bytes):len(u.bytes)], u.sort), u.seal)...)
	return [2]uint32{place + u.place, uint32(len(u.bytes))}
}

func varints(h [2]uint32) string {
	return string(codec.Varint(uint64(h[0]))) + string(codec.Varint(uint64(h[1])))
}

func lastOf(l []api.Entry) api.Key { return l[len(l)-1].Key }

// bytes is the plan as it is laid out.
func (p plan) bytes() []byte {
	y := layer{plan: p}
	var handles [][2]uint32
	for _, l := range p.data {
		handles = append(handles, y.lay(unit{sort: 0, restart: p.options.Restart, entries: l}))
	}
	top := y.parts(handles)
	ranges := y.lay(unit{sort: 3, restart: 1, entries: p.ranges})
	said := y.lay(unit{sort: 4, restart: 1, entries: p.said(len(top))})
	last := y.lay(unit{sort: 5, restart: 1, entries: top})
	var foot []byte
	for _, h := range [][2]uint32{ranges, said, last} {
		foot = append(append(foot, codec.Fixed32(h[0])...), codec.Fixed32(h[1])...)
	}
	if p.foot != nil {
		foot = p.foot(foot)
	}
	return append(append(y.bytes, sealed(foot, 0)...), p.magic...)
}

// parts lays filters and indexes, and is the entries of the top.
func (y *layer) parts(handles [][2]uint32) []api.Entry {
	var top []api.Entry
	for i := 0; i < len(y.data); i += y.options.Part {
		end := min(i+y.options.Part, len(y.data))
		var users []string
		var index []api.Entry
		for j := i; j < end; j++ {
			for _, x := range y.data[j] {
				users = append(users, x.User)
			}
			index = append(index, api.Entry{Key: lastOf(y.data[j]), Value: varints(handles[j])})
		}
		var filter [2]uint32
		if y.options.Bits != 0 {
			b, _ := bloom.Build(users, y.options.Bits)
			filter = y.lay(unit{sort: 1, bytes: b})
		}
		h := y.lay(unit{sort: 2, restart: 1, entries: index})
		top = append(top, api.Entry{Key: lastOf(y.data[end-1]), Value: varints(h) + varints(filter)})
	}
	return top
}

// props is what the table says of itself.
func (p plan) props(parts int) api.Props {
	said := api.Props{Options: p.options, Ranges: len(p.ranges), Blocks: len(p.data), Parts: parts}
	all := [][]api.Entry{p.ranges}
	for _, l := range p.data {
		said.Entries += len(l)
		all = append(all, l)
	}
	any := false
	for _, l := range all {
		for _, x := range l {
			if x.Kind == api.Delete {
				said.Deletes++
			}
			if !any || x.Seq < said.First {
				said.First = x.Seq
			}
			if !any || x.Seq > said.Last {
				said.Last = x.Seq
			}
			any = true
		}
	}
	return said
}

// said is the properties.
func (p plan) said(parts int) []api.Entry {
	x := p.props(parts)
	o := x.Options
	var l []api.Entry
	for i, n := range []int{o.Bits, o.Block, x.Blocks, x.Deletes, x.Entries, int(x.First), o.How, int(x.Last), o.Part, x.Parts, x.Ranges, o.Restart} {
		name := strings.Fields("bits block blocks deletes entries first how last part parts ranges restart")[i]
		l = append(l, put(name, 0, string(codec.Varint(uint64(n)))))
	}
	return l
}

// modelMay is May by the chapter's words.
func (p plan) modelMay(key string) bool {
	for i := 0; i < len(p.data); i += p.options.Part {
		part := p.data[i:min(i+p.options.Part, len(p.data))]
		last := codec.Compare(p.options.How, lastOf(part[len(part)-1]).User, key)
		if last < 0 {
			continue
		}
		var users []string
		for _, l := range part {
			for _, x := range l {
				users = append(users, x.User)
			}
		}
		filter, _ := bloom.Build(users, p.options.Bits)
		if p.options.Bits == 0 || bloom.May(filter, key) {
			return true
		}
		if last > 0 {
			return false
		}
	}
	return false
}

// forged wants what a plan with a change is laid out as to be no table.
func forged(t *testing.T, what string, p plan, change func(*unit)) {
	t.Helper()
	p.change = change
	opens(t, what, p.options.How, p.bytes(), api.ErrCorrupt)
}
