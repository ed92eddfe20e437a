package wal_test

import (
	"bytes"
	"encoding/binary"
	"hash/crc32"
	"math/rand/v2"
	"testing"

	"sediment/api"
	"sediment/wal"
)

// block is how many bytes a block has, by the chapter's words.
const block = 4096

// heads are how many bytes a head has, of a log that is not recycled and of one that is.
func heads(recycled bool) int {
	if recycled {
		return 11
	}
	return 7
}

// sealed is a fragment of what is summed of it, with the length that it says.
func sealed(length int, summed []byte) []byte {
	s := crc32.Checksum(summed, crc32.MakeTable(crc32.Castagnoli))
	out := binary.LittleEndian.AppendUint32(nil, (s>>15|s<<17)+0xa282ead8)
	return append(append(out, byte(length), byte(length>>8)), summed...)
}

// piece is a fragment of a log that is not recycled.
func piece(kind byte, b string) []byte {
	return sealed(len(b), append([]byte{kind}, b...))
}

// numbered is a fragment of a recycled log.
func numbered(kind byte, log uint32, b string) []byte {
	return sealed(len(b), append(binary.LittleEndian.AppendUint32([]byte{kind}, log), b...))
}

// join is fragments one behind the other.
func join(l ...[]byte) []byte { return bytes.Join(l, nil) }

// text is n bytes, of which few neighbours are the same.
func text(n int) string {
	b := make([]byte, n)
	for i := range b {
		b[i] = byte(i*7 + i>>8 + 1)
	}
	return string(b)
}

// texts is records of these sizes.
func texts(sizes ...int) []string {
	var l []string
	for i, n := range sizes {
		l = append(l, text(n + i)[i:])
	}
	return l
}

// add adds a record that can be added.
func add(t *testing.T, w *wal.Writer, record string) []byte {
	t.Helper()
	at := w.At()
	b, e := w.Add([]byte(record))
	if e != api.OK || w.At() != at+len(b) {
		t.Fatalf("Add of %d bytes: %d bytes, %d; At() = %d behind %d", len(record), len(b), e, w.At(), at)
	}
	return b
}

// written is the log of records, and where each of them ends.
func written(t *testing.T, log uint32, recycled bool, records ...string) ([]byte, []int) {
	t.Helper()
	var b []byte
	var ends []int
	w := wal.New(log, recycled)
	for _, r := range records {
		b = append(b, add(t, w, r)...)
		ends = append(ends, len(b))
	}
	return b, ends
}

// same tells whether records that were read are those.
func same(got [][]byte, want []string) bool {
	if len(got) != len(want) {
		return false
	}
	for i, r := range got {
		if string(r) != want[i] {
			return false
		}
	}
	return true
}

// reads looks at what Read answers.
func reads(t *testing.T, what string, b []byte, log uint32, want []string, how, place int) {
	t.Helper()
	l, h, p := wal.Read(b, log)
	if !same(l, want) || h != how || p != place {
		t.Errorf("%s: Read of %d bytes: %d records (right: %t), %d, %d, want %d records, %d, %d",
			what, len(b), len(l), same(l, want), h, p, len(want), how, place)
	}
}

// left is a log with one record that leaves so many bytes in its first block.
func left(t *testing.T, recycled bool, n int) ([]byte, string) {
	t.Helper()
	record := text(block - heads(recycled) - n)
	b, _ := written(t, 7, recycled, record)
	if len(b) != block-n {
		t.Fatalf("%d bytes are left of a block, want %d", block-len(b), n)
	}
	return b, record
}

// twice does something of both sorts of logs.
func twice(t *testing.T, do func(t *testing.T, recycled bool)) {
	t.Run("plain", func(t *testing.T) { do(t, false) })
	t.Run("recycled", func(t *testing.T) { do(t, true) })
}

// chance is random numbers that are the same in every run.
func chance(seed uint64) *rand.Rand { return rand.New(rand.NewPCG(5, seed)) }

// someSizes is sizes of records; many of them end near a block's end.
func someSizes(r *rand.Rand, n int) []int {
	var l []int
	for range n {
		switch r.IntN(4) {
		case 0:
			l = append(l, r.IntN(4))
		case 1:
			l = append(l, r.IntN(100))
		case 2:
			l = append(l, block-r.IntN(40))
		default:
			l = append(l, r.IntN(3*block))
		}
	}
	return l
}
