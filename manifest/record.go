package manifest

import (
	"sediment/api"
	"sediment/codec"
	"sediment/edit"
	"sediment/wal"
)

// record is edits that can be as bytes.
func record(l []api.Edit) []byte {
	out := codec.Varint(uint64(len(l)))
	for _, e := range l {
		b, _ := edit.Encode(e)
		out = append(out, codec.Varint(uint64(len(b)))...)
		out = append(out, b...)
	}
	return out
}

// edits is the edits of a record, and whether it is one.
func edits(b []byte) ([]api.Edit, bool) {
	many, b, is := varint(b)
	if !is {
		return nil, false
	}
	var l []api.Edit
	for range many {
		var size uint64
		if size, b, is = varint(b); !is || size > uint64(len(b)) {
			return nil, false
		}
		e, why := edit.Decode(b[:size])
		if why != api.OK {
			return nil, false
		}
		l, b = append(l, e), b[size:]
	}
	return l, len(b) == 0
}

// varint is a number, what stands behind it, and whether there is one.
func varint(b []byte) (uint64, []byte, bool) {
	n, size, why := codec.ReadVarint(b)
	return n, b[size:], why == api.OK
}

// read is what the bytes of a number's file say, and whether they are a manifest's.
func read(b []byte, number uint64) (said, bool) {
	records, how, _ := wal.Read(b, uint32(number))
	if how == api.Old || how == api.Spoiled || len(records) == 0 {
		return said{}, false
	}
	s := nothing(0)
	for _, record := range records {
		l, is := edits(record)
		if !is {
			return said{}, false
		}
		for _, e := range l {
			if s.take(e) != api.OK {
				return said{}, false
			}
		}
	}
	return s, true
}
