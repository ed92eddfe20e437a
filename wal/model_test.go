package wal_test

import (
	"bytes"
	"encoding/binary"
	"math/rand/v2"
	"testing"

	"sediment/api"
	"sediment/wal"
)

// modelAdd is the bytes of a record behind at bytes: first all its fragments are cut, then their types are told by their places.
func modelAdd(at int, log uint32, recycled bool, record string) []byte {
	type cut struct {
		noughts int
		b       string
	}
	var cuts []cut
	in := at % block
	for {
		noughts := 0
		if block-in < heads(recycled) {
			noughts, in = block-in, 0
		}
		n := min(block-in-heads(recycled), len(record))
		cuts = append(cuts, cut{noughts, record[:n]})
		record = record[n:]
		if record == "" {
			break
		}
		in = (in + heads(recycled) + n) % block
	}
	var out []byte
	for i, c := range cuts {
		kind := byte(3)
		switch {
		case len(cuts) == 1:
			kind = 1
		case i == 0:
			kind = 2
		case i == len(cuts)-1:
			kind = 4
		}
		out = append(out, make([]byte, c.noughts)...)
		if recycled {
			out = append(out, numbered(kind+4, log, c.b)...)
		} else {
			out = append(out, piece(kind, c.b)...)
		}
	}
	return out
}

// modelRead is what Read answers, place by place as the chapter numbers it.
func modelRead(b []byte, log uint32) ([]string, int, int) {
	recycled := len(b) >= 7 && b[6] >= 5 && b[6] <= 8
	head := heads(recycled)
	lowest, bad := byte(1), api.Spoiled
	if recycled {
		lowest, bad = 5, api.Torn
	}
	noughts := func(at int) bool { return bytes.Count(b[at:], []byte{0}) == len(b)-at }
	var records []string
	place, at, record, between := 0, 0, "", true
	for {
		if n := (at/block + 1) * block; n-at < head { // 1
			if len(b) < n {
				if between && noughts(at) {
					return records, api.Clean, place
				}
				return records, api.Torn, place
			}
			at = n
		}
		if noughts(at) { // 2
			if between {
				return records, api.Clean, place
			}
			return records, api.Torn, place
		}
		if at+head > len(b) { // 3
			return records, api.Torn, place
		}
		length := int(binary.LittleEndian.Uint16(b[at+4:]))
		end := at + head + length
		if end > (at/block+1)*block { // 4
			return records, bad, place
		}
		if end > len(b) { // 5
			return records, api.Torn, place
		}
		if !bytes.Equal(sealed(length, b[at+6:end]), b[at:end]) { // 6
			return records, bad, place
		}
		kind := b[at+6]
		if kind < lowest || kind > lowest+3 { // 7
			return records, bad, place
		}
		if recycled && binary.LittleEndian.Uint32(b[at+7:]) != log { // 8
			return records, api.Old, place
		}
		kind -= lowest - 1
		if !between && (kind == 1 || kind == 2) || between && (kind == 3 || kind == 4) { // 9
			return records, bad, place
		}
		record += string(b[at+head : end])
		at, between = end, kind == 1 || kind == 4
		if between {
			records, record, place = append(records, record), "", end
		}
	}
}

// asModel looks whether Read answers as the model does, and Reopen as its words say.
func asModel(t *testing.T, b []byte, log uint32, recycled bool) int {
	t.Helper()
	l, how, place := modelRead(b, log)
	reads(t, "as the model", b, log, l, how, place)
	w, e := wal.Reopen(b, log, recycled)
	if how == api.Clean && place == len(b) {
		if w == nil || e != api.OK || w.At() != len(b) {
			t.Errorf("Reopen of %d bytes: %v, %d", len(b), w, e)
		}
	} else if w != nil || e != api.ErrCorrupt {
		t.Errorf("Reopen of %d bytes: %v, %d", len(b), w, e)
	}
	return how
}

// loose is some fragments, most of them right, in an order that makes sense only here and there.
func loose(r *rand.Rand, recycled bool) []byte {
	var out []byte
	for range r.IntN(8) {
		if tail := block - len(out)%block; tail < heads(recycled) {
			out = append(out, bytes.Repeat([]byte{byte(r.IntN(2))}, tail)...)
		}
		room := block - len(out)%block - heads(recycled)
		n := min(room, r.IntN(12))
		if r.IntN(4) == 0 {
			n = max(0, room-r.IntN(14))
		}
		kind := byte(r.IntN(10))
		if r.IntN(4) > 0 {
			kind = byte(1 + r.IntN(4))
			if recycled {
				kind += 4
			}
		}
		if recycled {
			out = append(out, numbered(kind, uint32(7-r.IntN(10)/9), text(n))...)
		} else {
			out = append(out, piece(kind, text(n))...)
		}
	}
	return out
}

// spoil changes a log in one of several ways.
func spoil(r *rand.Rand, b []byte) []byte {
	b = bytes.Clone(b)
	if len(b) == 0 {
		return make([]byte, r.IntN(20))
	}
	at := r.IntN(len(b))
	switch r.IntN(7) {
	case 0:
		return b[:at]
	case 1:
		b[at] ^= 1 << r.IntN(8)
	case 2:
		clear(b[at:])
	case 3:
		return append(b, make([]byte, r.IntN(20))...)
	case 4:
		return append(b, text(r.IntN(20))...)
	case 5:
		return append(b[:at], text(r.IntN(block))...)
	case 6:
		return b[:max(0, len(b)-r.IntN(12))]
	}
	return b
}

// P5.1, P5.2, P5.3: logs that were written, and are cut, changed, put together, are read as a model reads them.
func TestAsTheModel(t *testing.T) {
	r := chance(1)
	var ends [2][4]int
	for i := range 12000 {
		recycled := i%2 == 1
		b := loose(r, recycled)
		if r.IntN(4) == 0 {
			b, _ = written(t, 7, recycled, texts(someSizes(r, r.IntN(4))...)...)
		}
		for range r.IntN(3) {
			b = spoil(r, b)
		}
		ends[i%2][asModel(t, b, 7, r.IntN(2) == 0)]++
	}
	for _, l := range [][]int{ends[0][api.Clean : api.Torn+1], ends[0][api.Spoiled:], ends[1][:api.Old+1]} {
		for _, n := range l {
			if n < 100 {
				t.Errorf("%d of some end: too few to tell: %v", n, ends)
			}
		}
	}
}

// P5.2: whatever bytes lie there.
func TestAnyBytesAsTheModel(t *testing.T) {
	r := chance(2)
	for range 20000 {
		b := make([]byte, r.IntN(60))
		for i := range b {
			b[i] = byte(r.IntN(256))
			if r.IntN(2) == 0 {
				b[i] = byte(r.IntN(10))
			}
		}
		asModel(t, b, uint32(r.IntN(10)), false)
	}
}
