package memtable

import (
	"iter"
	"math/bits"

	"sediment/api"
	"sediment/codec"
)

// mostHeight is how high a node is at most: with half as many nodes on each level as on the one below, more of them would help no search among MaxMem.
const mostHeight = 14

// tower is a node on each level.
type tower [mostHeight]*node

// node is an entry in a list, with the one ahead of it, and the ones behind it on each level that it reaches.
type node struct {
	api.Entry
	born int // how many nodes there were ahead of it
	back *node
	next []*node
}

// list is a skiplist of entries, in order. Where a node is asked for, nil is the place ahead of them all.
type list struct {
	how     int
	heights []byte
	head    tower
	count   int
}

// add puts an entry in, and tells whether its key was not there.
func (l *list) add(e api.Entry) bool {
	ahead := l.ahead(e.Key)
	behind := l.links(ahead[0])[0]
	if behind != nil && behind.Key == e.Key {
		return false
	}
	n := &node{Entry: e, born: l.count, back: ahead[0], next: make([]*node, l.height())}
	if behind != nil {
		behind.back = n
	}
	for level := range n.next {
		links := l.links(ahead[level])
		n.next[level], links[level] = links[level], n
	}
	l.count++
	return true
}

// height is how high the next node is. Without heights each second one is higher by one, each fourth one by two, and so on.
func (l *list) height() int {
	if len(l.heights) == 0 {
		return min(1+bits.TrailingZeros(uint(l.count+1)), mostHeight)
	}
	h := l.heights[l.count%len(l.heights)]
	return min(max(int(h), 1), mostHeight)
}

// links is what stands behind a node, level by level.
func (l *list) links(n *node) []*node {
	if n == nil {
		return l.head[:]
	}
	return n.next
}

// ahead is the last node of each level that is ahead of a key.
func (l *list) ahead(k api.Key) tower {
	var path tower
	var at *node
	for level := mostHeight - 1; level >= 0; level-- {
		n := l.links(at)[level]
		for n != nil && codec.Order(l.how, n.Key, k) < 0 {
			at, n = n, n.next[level]
		}
		path[level] = at
	}
	return path
}

// from is the first node that is not ahead of a key, nil if there is none.
func (l *list) from(k api.Key) *node { return l.links(l.ahead(k)[0])[0] }

// upTo is the last node that is not behind a key, nil if there is none.
func (l *list) upTo(k api.Key) *node {
	last := l.ahead(k)[0]
	if n := l.links(last)[0]; n != nil && n.Key == k {
		return n
	}
	return last
}

// all goes through the entries that are not ahead of a key.
func (l *list) all(k api.Key) iter.Seq[api.Entry] {
	return func(yield func(api.Entry) bool) {
		// What is added meanwhile is born later, and passed over.
		count := l.count
		for n := l.from(k); n != nil; n = n.next[0] {
			if n.born < count && !yield(n.Entry) {
				return
			}
		}
	}
}

// turned goes through the entries that are not behind a key, from the last one on.
func (l *list) turned(k api.Key) iter.Seq[api.Entry] {
	return func(yield func(api.Entry) bool) {
		count := l.count
		for n := l.upTo(k); n != nil; n = n.back {
			if n.born < count && !yield(n.Entry) {
				return
			}
		}
	}
}
