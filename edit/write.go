package edit

import (
	"sediment/api"
	"sediment/codec"
)

// The parts of an edit's bytes, by the numbers with which they begin, in the order in which they stand.
const (
	_ = iota
	partFamily
	partMake
	partDrop
	partLog
	partNext
	partSeq
	partGone
	partAdded
)

// Encode is an edit as bytes.
func Encode(e api.Edit) ([]byte, api.Errno) {
	if why := checkEdit(e); why != api.OK {
		return nil, why
	}
	b := appendPart(nil, partFamily, uint64(e.Family))
	if e.Make {
		b = appendPart(b, partMake, uint64(e.How))
		b = appendTexts(b, e.Name)
	}
	if e.Drop {
		b = appendPart(b, partDrop)
	}
	if e.HasLog {
		b = appendPart(b, partLog, e.Log)
	}
	if e.HasNext {
		b = appendPart(b, partNext, e.Next)
	}
	if e.HasSeq {
		b = appendPart(b, partSeq, e.Seq)
	}
	for _, g := range e.Gone {
		b = appendPart(b, partGone, uint64(g.Level), g.Number)
	}
	for _, a := range e.Added {
		b = appendAdded(b, a.Level, a.File)
	}
	return b, api.OK
}

func appendAdded(b []byte, level int, f api.File) []byte {
	b = appendPart(b, partAdded, uint64(level), f.Number, f.Size, f.Entries, f.Ranges)
	return appendTexts(b, keyText(f.Smallest), keyText(f.Largest))
}

// keyText is the bytes of a key that can be.
func keyText(k api.Key) string {
	b, _ := codec.Encode(k)
	return string(b)
}

// appendPart writes a part's number, and the numbers with which the part begins.
func appendPart(b []byte, part byte, numbers ...uint64) []byte {
	b = append(b, part)
	for _, n := range numbers {
		b = append(b, codec.Varint(n)...)
	}
	return b
}

// appendTexts writes of each text its length, and its bytes.
func appendTexts(b []byte, texts ...string) []byte {
	for _, s := range texts {
		b = append(b, codec.Varint(uint64(len(s)))...)
		b = append(b, s...)
	}
	return b
}
