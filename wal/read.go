package wal

import (
	"bytes"

	"sediment/api"
	"sediment/codec"
)

// goesOn says that a log does not end at a place: none of the ends is below 0.
const goesOn = -1

// reader reads a log's bytes from the left.
type reader struct {
	b       []byte
	layout  layout
	solid   int // from here on there is nothing but noughts
	at      int
	open    bool   // within a record
	record  []byte // what was read of that
	records [][]byte
	end     int // of the last one of these
}

// Read is the records of a log's bytes; how it ends, and the end of the last record.
func Read(b []byte, log uint32) ([][]byte, int, int) {
	if len(b) > mostBytes {
		return nil, api.Spoiled, 0
	}
	r := &reader{b: b, layout: layout{log: log, recycled: isRecycled(b)}, solid: len(bytes.TrimRight(b, "\x00"))}
	how := goesOn
	for how == goesOn {
		how = r.step()
	}
	return r.records, how, r.end
}

// isRecycled tells by the first fragment's type whether a log's bytes are a recycled one's.
func isRecycled(b []byte) bool {
	return len(b) > typeAt && layout{recycled: true}.kind(b[typeAt]) != none
}

// step reads the fragment at the reader's place: how the log ends there, or that it goes on.
func (r *reader) step() int {
	tail := r.layout.tail(r.at)
	if r.at+tail > len(r.b) && r.at < r.solid {
		return api.Torn
	}
	// What stands between the last fragment of a block and the next block is nobody's.
	r.at += tail
	if r.at >= r.solid {
		return r.quiet()
	}
	rest := r.b[r.at:]
	if len(rest) < r.layout.head() {
		return api.Torn
	}
	size := r.layout.head() + length(rest)
	if size > leftInBlock(r.at) {
		return r.bad()
	}
	if size > len(rest) {
		return api.Torn
	}
	return r.look(rest[:size])
}

// look takes a fragment, if it is one of this log, and one that may stand here.
func (r *reader) look(fragment []byte) int {
	kind := r.layout.kind(fragment[typeAt])
	if !bytes.Equal(fragment[:lengthAt], seal(fragment)) || kind == none {
		return r.bad()
	}
	if r.isOlder(fragment) {
		return api.Old
	}
	if begins := kind == whole || kind == first; begins == r.open {
		return r.bad()
	}
	r.take(kind, fragment)
	return goesOn
}

// take puts a fragment's bytes behind those that were read of its record.
func (r *reader) take(kind int, fragment []byte) {
	r.at += len(fragment)
	r.open = true
	r.record = append(r.record, fragment[r.layout.head():]...)
	if kind == whole || kind == last {
		r.records = append(r.records, r.record)
		r.record = nil
		r.open = false
		r.end = r.at
	}
}

// isOlder tells whether a fragment is one of an older log, over whose beginning this one was written.
func (r *reader) isOlder(fragment []byte) bool {
	if !r.layout.recycled {
		return false
	}
	log, _ := codec.ReadFixed32(fragment[numberAt:])
	return log != r.layout.log
}

// quiet is how a log ends where nothing more was written.
func (r *reader) quiet() int {
	if r.open {
		return api.Torn
	}
	return api.Clean
}

// bad is how a log ends at bytes that are no fragment: of a recycled one they may be what an older log left.
func (r *reader) bad() int {
	if r.layout.recycled {
		return api.Torn
	}
	return api.Spoiled
}
