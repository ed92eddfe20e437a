package wal_test

import (
	"testing"

	"sediment/api"
)

// ends is what Read answers of some bytes.
type ends struct {
	what    string
	b       []byte
	records []string
	how     int
	place   int
}

func readsAll(t *testing.T, l []ends) {
	t.Helper()
	for _, c := range l {
		reads(t, c.what, c.b, 7, c.records, c.how, c.place)
	}
}

var abc = []string{"abc"}

// P5.2: where all that is left is noughts, or nothing.
func TestReadNoughts(t *testing.T) {
	whole, first := piece(1, "abc"), piece(2, "abc")
	for _, n := range []int{0, 1, 6, 7, 8, 20, 4000, 4085, 4086, 4087, 4096, 5000, 10000} {
		noughts := make([]byte, n)
		readsAll(t, []ends{
			{"noughts", noughts, nil, api.Clean, 0},
			{"noughts behind a record", join(whole, noughts), abc, api.Clean, 10},
			{"noughts within a record", join(first, noughts), nil, api.Torn, 0},
			{"noughts within the second one", join(whole, first, noughts), abc, api.Torn, 10},
			{"noughts behind, recycled", join(numbered(5, 7, "abc"), noughts), abc, api.Clean, 14},
			{"noughts within, recycled", join(numbered(6, 7, "abc"), noughts), nil, api.Torn, 0},
		})
	}
}

// P5.2: noughts behind which something stands are a head.
func TestReadNoughtsAhead(t *testing.T) {
	whole := piece(1, "abc")
	for n := range 6 {
		readsAll(t, []ends{{"too few for a head", join(whole, make([]byte, n), []byte{1}), abc, api.Torn, 10}})
	}
	for _, n := range []int{6, 7, 100, 4000, 4096, 9000} {
		readsAll(t, []ends{
			{"something behind noughts", join(whole, make([]byte, n), []byte{1}), abc, api.Spoiled, 10},
			{"a record behind noughts", join(make([]byte, n+1), whole), nil, api.Spoiled, 0},
		})
	}
	readsAll(t, []ends{
		{"a head of noughts, recycled", join(numbered(5, 7, "abc"), make([]byte, 11), []byte{1}), abc, api.Torn, 14},
	})
}

// P5.2: what ends within a head, or within the bytes that a length says.
func TestReadCutOff(t *testing.T) {
	for _, c := range []struct{ one, next []byte }{
		{piece(1, "abc"), piece(1, "defg")},
		{numbered(5, 7, "abc"), numbered(5, 7, "defg")},
		{piece(1, "abc"), piece(2, "defg")},
		{numbered(5, 7, "abc"), numbered(6, 7, "defg")},
	} {
		for i := 1; i < len(c.next); i++ {
			readsAll(t, []ends{
				{"cut off", c.next[:i], nil, api.Torn, 0},
				{"the second one cut off", join(c.one, c.next[:i]), abc, api.Torn, len(c.one)},
			})
		}
	}
	// The length and the sum play no part where the head is not whole, the sum and the type not where the bytes aren't.
	readsAll(t, []ends{
		{"a great length in a head that is not whole", []byte{1, 1, 1, 1, 255, 255}, nil, api.Torn, 0},
		{"bytes that are not there", []byte{1, 1, 1, 1, 5, 0, 77, 1, 1, 1, 1}, nil, api.Torn, 0},
		{"of another log", join(numbered(5, 7, "abc"), numbered(5, 6, "defg")[:14]), abc, api.Torn, 14},
	})
}

// headOf is a head that says a length, with a sum that is none.
func headOf(length int) []byte {
	return []byte{1, 1, 1, 1, byte(length), byte(length >> 8), 1}
}

// P5.2: lengths that go beyond the block, and such as just don't.
func TestReadLengths(t *testing.T) {
	five := append(headOf(0), 0, 0, 0, 0)
	five[6] = 5
	five[4], five[5] = 0xf6, 0x0f // 4086
	readsAll(t, []ends{
		{"just up to the block's end", headOf(4089), nil, api.Torn, 0},
		{"one beyond", headOf(4090), nil, api.Spoiled, 0},
		{"far beyond", headOf(65535), nil, api.Spoiled, 0},
		{"one beyond, with all these bytes", join(headOf(4090), make([]byte, 9000), []byte{1}), nil, api.Spoiled, 0},
		{"beyond, with the right sum", sealed(4090, []byte("\x01"+text(4090))), nil, api.Spoiled, 0},
		{"beyond, behind a record", join(piece(1, "abc"), headOf(4080)), abc, api.Spoiled, 10},
		{"not beyond, behind a record", join(piece(1, "abc"), headOf(4079)), abc, api.Torn, 10},
		{"beyond, recycled", join(five, make([]byte, 9000), []byte{1}), nil, api.Torn, 0},
		{"beyond, recycled, with the right sum", sealed(4086, []byte("\x05\x07\x00\x00\x00"+text(4086))), nil, api.Torn, 0},
		{"beyond, within a record", join(piece(2, "abc"), headOf(4080)), nil, api.Spoiled, 0},
	})
	b, record := left(t, false, 7)
	readsAll(t, []ends{
		{"no byte at the block's end", join(b, piece(1, "")), []string{record, ""}, api.Clean, block},
		{"one byte beyond it", join(b, piece(1, "a")), []string{record}, api.Spoiled, block - 7},
		{"beyond, with the bytes not there", join(b, headOf(1)), []string{record}, api.Spoiled, block - 7},
	})
}

// P5.2: a sum that is another one; also where type, number and order are wrong.
func TestReadSums(t *testing.T) {
	for _, kind := range []byte{1, 2, 3, 4, 9, 0} {
		good := piece(kind, "defg")
		for i := range good {
			if i == 4 || i == 5 {
				continue // the length is not summed
			}
			b := join(piece(1, "abc"), good, piece(1, "x"))
			b[10+i] ^= 0x80
			readsAll(t, []ends{{"a sum", b, abc, api.Spoiled, 10}})
		}
	}
	for _, c := range [][]byte{numbered(5, 7, "defg"), numbered(6, 7, "defg"), numbered(5, 6, "defg"), numbered(8, 6, "")} {
		for i := range c {
			if i == 4 || i == 5 {
				continue
			}
			b := join(numbered(5, 7, "abc"), c, numbered(5, 7, "x"))
			b[14+i] ^= 0x80
			readsAll(t, []ends{{"a sum, recycled", b, abc, api.Torn, 14}})
		}
	}
	shorter := join(piece(1, "abc"), piece(1, "def"))
	shorter[4] = 2
	readsAll(t, []ends{{"a length that is too short", shorter, nil, api.Spoiled, 0}})
	unmasked := piece(1, "abc")
	copy(unmasked, []byte{0, 0, 0, 0})
	readsAll(t, []ends{{"no sum", unmasked, nil, api.Spoiled, 0}})
}

// P5.2: types that are none of this log's, with the right sum.
func TestReadTypes(t *testing.T) {
	for kind := range 256 {
		k := byte(kind)
		if kind == 0 || kind > 4 {
			readsAll(t, []ends{{"a type", join(piece(1, "abc"), piece(k, "defghi")), abc, api.Spoiled, 10}})
		}
		if kind < 5 || kind > 8 {
			readsAll(t, []ends{
				{"a type, recycled", join(numbered(5, 7, "abc"), numbered(k, 7, "de")), abc, api.Torn, 14},
				{"a type, recycled, of another log", join(numbered(5, 7, "abc"), numbered(k, 6, "de")), abc, api.Torn, 14},
				{"a short head in a recycled log", join(numbered(5, 7, "abc"), piece(k, "defghi")), abc, api.Torn, 14},
			})
		}
		if kind == 0 || kind > 8 {
			readsAll(t, []ends{{"a type at first", piece(k, "abc"), nil, api.Spoiled, 0}})
		}
	}
}

// P5.2: by the seventh byte it is told whether a log is recycled.
func TestReadTellsRecycled(t *testing.T) {
	readsAll(t, []ends{
		{"5", numbered(5, 7, "abc"), abc, api.Clean, 14},
		{"6 and 8", join(numbered(6, 7, "a"), numbered(8, 7, "bc")), abc, api.Clean, 25},
		{"7 at first", numbered(7, 7, "abc"), nil, api.Torn, 0},
		{"8 at first", numbered(8, 7, "abc"), nil, api.Torn, 0},
		{"5 with a short head", piece(5, "abc"), nil, api.Torn, 0},
		{"5 with a short head and more bytes", piece(5, "abcdefgh"), nil, api.Torn, 0},
		{"1 with a long head", numbered(1, 7, "abc"), nil, api.Spoiled, 0},
		{"9 with a long head", numbered(9, 7, "abc"), nil, api.Spoiled, 0},
		{"just a head of 7 bytes, recycled", []byte{1, 1, 1, 1, 0, 0, 5}, nil, api.Torn, 0},
		{"just a head of 7 bytes", []byte{1, 1, 1, 1, 0, 0, 1}, nil, api.Spoiled, 0},
		{"six bytes", []byte{1, 1, 1, 1, 0, 5}, nil, api.Torn, 0},
	})
}

// P5.2: fragments of another log; only recycled ones say of which they are.
func TestReadOld(t *testing.T) {
	one := numbered(5, 7, "abc")
	for _, log := range []uint32{0, 6, 8, 7 << 8, 7 | 1<<8, 7 | 1<<16, 7 | 1<<31, 1<<32 - 1} {
		for _, kind := range []byte{5, 6, 7, 8} {
			other := numbered(kind, log, "de")
			readsAll(t, []ends{
				{"an older one at first", other, nil, api.Old, 0},
				{"an older one", join(one, other), abc, api.Old, 14},
				{"an older one, and one of this log behind", join(one, other, one), abc, api.Old, 14},
				{"an older one within a record", join(one, numbered(6, 7, "x"), other), abc, api.Old, 14},
			})
		}
	}
	for _, log := range []uint32{0, 1, 7, 1<<32 - 1} {
		reads(t, "no number", join(piece(1, "abc"), piece(2, "d"), piece(4, "")), log, []string{"abc", "d"}, api.Clean, 25)
		reads(t, "any number", numbered(5, log, "abc"), log, abc, api.Clean, 14)
	}
}

// P5.2: fragments that can't stand where they stand; both sorts.
func TestReadOrder(t *testing.T) {
	one, two, three, four := piece(1, "abc"), piece(2, "d"), piece(3, "e"), piece(4, "f")
	readsAll(t, []ends{
		{"one within between", three, nil, api.Spoiled, 0},
		{"a last one between", four, nil, api.Spoiled, 0},
		{"one within behind a record", join(one, three), abc, api.Spoiled, 10},
		{"a last one behind a record", join(one, four), abc, api.Spoiled, 10},
		{"a last one behind a last one", join(one, two, four, four), []string{"abc", "df"}, api.Spoiled, 26},
		{"a whole one within", join(two, one), nil, api.Spoiled, 0},
		{"a first one within", join(one, two, two), abc, api.Spoiled, 10},
		{"a whole one behind one within", join(one, two, three, one), abc, api.Spoiled, 10},
		{"a first one behind one within", join(two, three, two, four), nil, api.Spoiled, 0},
		{"all in order", join(two, three, three, four, two, four, one), []string{"deef", "df", "abc"}, api.Clean, 58},
		{"no end", join(one, two, three), abc, api.Torn, 10},
		{"fragments without bytes", join(piece(2, ""), piece(3, ""), piece(4, ""), piece(1, "")), []string{"", ""}, api.Clean, 28},
		{"a first one without bytes within", join(piece(2, ""), piece(2, "")), nil, api.Spoiled, 0},
	})
	one, two, three, four = numbered(5, 7, "abc"), numbered(6, 7, "d"), numbered(7, 7, "e"), numbered(8, 7, "f")
	readsAll(t, []ends{
		{"one within between, recycled", three, nil, api.Torn, 0},
		{"a last one between, recycled", join(one, four, one), abc, api.Torn, 14},
		{"a whole one within, recycled", join(one, two, one), abc, api.Torn, 14},
		{"a first one within, recycled", join(two, two, four), nil, api.Torn, 0},
		{"all in order, recycled", join(two, three, four, one), []string{"def", "abc"}, api.Clean, 50},
	})
}

// P5.2: what stands behind the last fragment of a block, where no head has room.
func TestReadBlockEnds(t *testing.T) {
	twice(t, func(t *testing.T, recycled bool) {
		next := piece(1, "abc")
		begin := piece(2, "x")
		if recycled {
			next, begin = numbered(5, 7, "abc"), numbered(6, 7, "x")
		}
		for n := 1; n < heads(recycled); n++ {
			b, record := left(t, recycled, n)
			noughts, others := make([]byte, n), []byte(text(n))
			one, two := []string{record}, []string{record, "abc"}
			readsAll(t, []ends{
				{"noughts and a block", join(b, noughts, next), two, api.Clean, block + len(next)},
				{"other bytes and a block", join(b, others, next), two, api.Clean, block + len(next)},
				{"noughts and no block", join(b, noughts), one, api.Clean, len(b)},
				{"other bytes and no block", join(b, others), one, api.Clean, len(b)},
				{"other bytes and noughts", join(b, others, make([]byte, 9000)), one, api.Clean, len(b)},
				{"other bytes and one more", join(b, others, []byte{1}), one, api.Torn, len(b)},
				{"fewer noughts", join(b, noughts[:n-1]), one, api.Clean, len(b)},
				{"a record torn", join(b, noughts, begin), one, api.Torn, len(b)},
			})
			if n > 1 {
				readsAll(t, []ends{
					{"fewer other bytes", join(b, others[:n-1]), one, api.Torn, len(b)},
					{"a byte and a nought less", join(b, others[:1], noughts[:n-2]), one, api.Torn, len(b)},
				})
			}
		}
	})
}

// P5.2: the same within a record.
func TestReadBlockEndsWithin(t *testing.T) {
	for n := 1; n < 7; n++ {
		record := text(block - 7 - n)
		b, noughts, others := piece(2, record), make([]byte, n), []byte(text(n))
		whole := []string{record + "abc"}
		readsAll(t, []ends{
			{"noughts and a block", join(b, noughts, piece(4, "abc")), whole, api.Clean, block + 10},
			{"other bytes and a block", join(b, others, piece(4, "abc")), whole, api.Clean, block + 10},
			{"noughts and no block", join(b, noughts), nil, api.Torn, 0},
			{"other bytes and no block", join(b, others), nil, api.Torn, 0},
			{"fewer noughts", join(b, noughts[:n-1]), nil, api.Torn, 0},
			{"fewer other bytes", join(b, others[:n-1]), nil, api.Torn, 0},
			{"a whole one in the next block", join(b, noughts, piece(1, "abc")), nil, api.Spoiled, 0},
		})
	}
}
