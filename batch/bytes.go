package batch

import (
	"math"

	"sediment/api"
	"sediment/codec"
)

// A batch's head is the sequence number of its first record, and how many records there are, both fixed numbers.
const (
	seqSize  = 8
	manySize = 4
	headSize = seqSize + manySize
)

// Check tells whether a record can be.
func Check(r api.Record) api.Errno {
	switch {
	case !isKind(r.Kind):
		return api.ErrArg
	case len(r.Key) > api.MaxKey, hasValue(r.Kind) && len(r.Value) > mostValue(r.Kind):
		return api.ErrLong
	}
	return api.OK
}

func isKind(kind int) bool {
	return kind == api.Delete || kind == api.Put || kind == api.RangeDelete
}

// hasValue tells whether the value of a record of a kind plays a part.
func hasValue(kind int) bool { return kind != api.Delete }

// mostValue is how many bytes a value has at most: that of a range is its end, a key.
func mostValue(kind int) int {
	if kind == api.RangeDelete {
		return api.MaxKey
	}
	return api.MaxValue
}

// numbered tells whether so many records may have the sequence numbers from seq on.
func numbered(seq, many uint64) bool {
	return seq <= api.MaxSeq && (many == 0 || many-1 <= api.MaxSeq-seq)
}

// Encode is a batch as bytes, with the sequence number of its first record.
func Encode(seq uint64, l []api.Record) ([]byte, api.Errno) {
	if !numbered(seq, uint64(len(l))) {
		return nil, api.ErrArg
	}
	if len(l) > api.MaxBatch {
		return nil, api.ErrLong
	}
	for _, r := range l {
		if e := Check(r); e != api.OK {
			return nil, e
		}
	}
	size := headSize + recordsSize(l)
	if size > api.MaxBytes {
		return nil, api.ErrLong
	}
	b := make([]byte, 0, size)
	b = append(b, codec.Fixed64(seq)...)
	b = append(b, codec.Fixed32(uint32(len(l)))...)
	for _, r := range l {
		b = appendRecord(b, r)
	}
	return b, api.OK
}

func appendRecord(b []byte, r api.Record) []byte {
	b = append(b, byte(r.Kind))
	b = append(b, codec.Varint(uint64(r.Family))...)
	b = appendText(b, r.Key)
	if hasValue(r.Kind) {
		b = appendText(b, r.Value)
	}
	return b
}

func appendText(b []byte, s string) []byte {
	b = append(b, codec.Varint(uint64(len(s)))...)
	return append(b, s...)
}

func recordsSize(l []api.Record) int {
	n := 0
	for _, r := range l {
		n += recordSize(r)
	}
	return n
}

// recordSize is how many bytes appendRecord writes.
func recordSize(r api.Record) int {
	n := 1 + varintSize(uint64(r.Family)) + textSize(r.Key)
	if hasValue(r.Kind) {
		n += textSize(r.Value)
	}
	return n
}

func textSize(s string) int { return varintSize(uint64(len(s))) + len(s) }

func varintSize(n uint64) int { return len(codec.Varint(n)) }

// Decode is the sequence number of the first record, and the records, of a batch's bytes.
func Decode(b []byte) (uint64, []api.Record, api.Errno) {
	if len(b) > api.MaxBytes {
		return 0, nil, api.ErrLong
	}
	return whole(b)
}

// whole reads all of b as a batch, and catches a reader that gives up.
func whole(b []byte) (seq uint64, l []api.Record, e api.Errno) {
	defer func() {
		cause := recover()
		if cause == nil {
			return
		}
		why, ok := cause.(api.Errno)
		if !ok {
			// No reader's: a fault of the program, which must not pass for one of the bytes.
			panic(cause)
		}
		seq, l, e = 0, nil, why
	}()
	r := reader{b}
	seq, many := r.head()
	for range many {
		l = append(l, r.record())
	}
	r.end()
	return seq, l, api.OK
}

// reader is the bytes that are still to be read. It gives up by a panic with the error (an api.Errno).
type reader struct{ rest []byte }

// take is the next n bytes.
func (r *reader) take(n int) []byte {
	if n > len(r.rest) {
		panic(api.ErrShort)
	}
	b := r.rest[:n]
	r.rest = r.rest[n:]
	return b
}

// must gives up where the bytes are not what they should be.
func must(ok bool) {
	if !ok {
		panic(api.ErrCorrupt)
	}
}

// head is the sequence number and how many records there are. The number is looked at as soon as it is read, for what stands further left is told first.
func (r *reader) head() (uint64, int) {
	seq, _ := codec.ReadFixed64(r.take(seqSize))
	must(numbered(seq, 0))
	many, _ := codec.ReadFixed32(r.take(manySize))
	must(many <= api.MaxBatch && numbered(seq, uint64(many)))
	return seq, int(many)
}

func (r *reader) record() api.Record {
	kind := int(r.take(1)[0])
	must(isKind(kind))
	family := uint32(r.varint(math.MaxUint32))
	key := r.text(api.MaxKey)
	value := ""
	if hasValue(kind) {
		value = r.text(mostValue(kind))
	}
	return api.Record{Family: family, Kind: kind, Key: key, Value: value}
}

// varint is a number that is at most most.
func (r *reader) varint(most uint64) uint64 {
	n, size, e := codec.ReadVarint(r.rest)
	if e != api.OK {
		panic(e)
	}
	must(n <= most)
	r.rest = r.rest[size:]
	return n
}

// text is a length that is at most most, and so many bytes.
func (r *reader) text(most int) string {
	n := r.varint(uint64(most))
	return string(r.take(int(n)))
}

// end wants that nothing is left.
func (r *reader) end() {
	if len(r.rest) > 0 {
		panic(api.ErrMore)
	}
}
