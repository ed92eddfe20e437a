package batch_test

import (
	"bytes"
	"encoding/binary"
	"math"
	"math/rand/v2"
	"slices"
	"testing"

	"sediment/api"
	"sediment/batch"
)

// head is a batch's head.
func head(seq uint64, many uint32) []byte {
	return binary.LittleEndian.AppendUint32(binary.LittleEndian.AppendUint64(nil, seq), many)
}

// raw is a head, and bytes behind it.
func raw(seq uint64, many uint32, rest ...string) []byte {
	b := head(seq, many)
	for _, s := range rest {
		b = append(b, s...)
	}
	return b
}

// P3.1
func TestCheck(t *testing.T) {
	for _, r := range rightRecords() {
		if e := batch.Check(r); e != api.OK {
			t.Errorf("Check(%v): %d", short(r), e)
		}
	}
	for r, want := range wrongRecords() {
		if e := batch.Check(r); e != want {
			t.Errorf("Check(%v), key of %d and value of %d bytes: %d, want %d", short(r), len(r.Key), len(r.Value), e, want)
		}
	}
}

// P3.1
func TestEncodeBytes(t *testing.T) {
	for _, c := range []struct {
		seq  uint64
		l    []api.Record
		want []byte
	}{
		{0, nil, raw(0, 0)},
		{7, []api.Record{}, raw(7, 0)},
		{1, []api.Record{put(0, "a", "b")}, raw(1, 1, "\x01\x00\x01a\x01b")},
		{0x01020304050607, []api.Record{del(300, "c")}, []byte("\x07\x06\x05\x04\x03\x02\x01\x00\x01\x00\x00\x00\x00\xac\x02\x01c")},
		{5, []api.Record{span(2, "d", "e")}, raw(5, 1, "\x02\x02\x01d\x01e")},
		{5, []api.Record{put(0, "", ""), del(0, ""), span(0, "", "")}, raw(5, 3, "\x01\x00\x00\x00", "\x00\x00\x00", "\x02\x00\x00\x00")},
		{5, []api.Record{{Kind: api.Delete, Key: "k", Value: "gone"}}, raw(5, 1, "\x00\x00\x01k")},
		{api.MaxSeq, []api.Record{put(1<<32-1, "\x00\xff", text(128))}, raw(api.MaxSeq, 1, "\x01\xff\xff\xff\xff\x0f\x02\x00\xff\x80\x01", text(128))},
		{9, []api.Record{put(128, text(1024), text(16384))}, raw(9, 1, "\x01\x80\x01\x80\x08", text(1024), "\x80\x80\x01", text(16384))},
	} {
		if b, e := batch.Encode(c.seq, c.l); !bytes.Equal(b, c.want) || e != api.OK {
			t.Errorf("Encode(%d, %d records) = %.40x, %d, want %.40x", c.seq, len(c.l), b, e, c.want)
		}
		if seq, l, e := batch.Decode(c.want); seq != c.seq || !slices.Equal(l, bare(c.l)) || e != api.OK {
			t.Errorf("Decode(%.40x) = %d, %d records, %d", c.want, seq, len(l), e)
		}
	}
}

// P3.1: each error, and which comes first.
func TestEncodeRefuses(t *testing.T) {
	kind, key := api.Record{Kind: 3}, put(0, text(1025), "")
	wide := widest(api.MaxBytes + 1)
	for _, c := range []struct {
		name string
		seq  uint64
		l    []api.Record
		want api.Errno
	}{
		{"greatest number, none", api.MaxSeq, nil, api.OK},
		{"greatest number, one", api.MaxSeq, some(1), api.OK},
		{"greatest number, two", api.MaxSeq, some(2), api.ErrArg},
		{"last number just fits", api.MaxSeq - 4095, some(4096), api.OK},
		{"last number too great", api.MaxSeq - 4094, some(4096), api.ErrArg},
		{"number too great, none", api.MaxSeq + 1, nil, api.ErrArg},
		{"number too great, one", api.MaxSeq + 1, some(1), api.ErrArg},
		{"number that wraps round", math.MaxUint64, some(2), api.ErrArg},
		{"number that wraps round, none", math.MaxUint64, nil, api.ErrArg},
		{"most records", 1, some(4096), api.OK},
		{"too many records", 1, some(4097), api.ErrLong},
		{"many too many records", 1, some(1 << 16), api.ErrLong},
		{"number ahead of too many", api.MaxSeq + 1, some(4097), api.ErrArg},
		{"last number ahead of too many", api.MaxSeq - 4095, some(4097), api.ErrArg},
		{"too many ahead of kind", 1, append(some(4096), kind), api.ErrLong},
		{"kind at the last place", 1, append(some(4095), kind), api.ErrArg},
		{"kind", 1, []api.Record{kind}, api.ErrArg},
		{"key", 1, []api.Record{key}, api.ErrLong},
		{"kind ahead of key", 1, []api.Record{put(0, "a", "b"), kind, key}, api.ErrArg},
		{"key ahead of kind", 1, []api.Record{put(0, "a", "b"), key, kind}, api.ErrLong},
		{"number ahead of key", api.MaxSeq + 1, []api.Record{key}, api.ErrArg},
		{"most bytes", 1, widest(api.MaxBytes), api.OK},
		{"too many bytes", 1, wide, api.ErrLong},
		{"kind ahead of too many bytes", 1, append(slices.Clone(wide), kind), api.ErrArg},
		{"number ahead of too many bytes", api.MaxSeq + 1, wide, api.ErrArg},
		{"wide values that play no part", 1, slices.Repeat([]api.Record{{Value: text(1 << 20)}}, 100), api.OK},
	} {
		b, e := batch.Encode(c.seq, c.l)
		if e != c.want || e != api.OK && len(b) != 0 || e == api.OK && len(b) != bytesOf(c.l) {
			t.Errorf("%s: %d bytes, %d, want %d", c.name, len(b), e, c.want)
		}
	}
	for r, want := range wrongRecords() {
		if b, e := batch.Encode(1, []api.Record{put(0, "a", "b"), r}); len(b) != 0 || e != want {
			t.Errorf("Encode of %v: %d bytes, %d, want %d", short(r), len(b), e, want)
		}
	}
}

// P3.1, P3.2: the greatest batch has just MaxBytes bytes, one byte more is refused ahead of all else.
func TestMostBytes(t *testing.T) {
	l := widest(api.MaxBytes)
	b, e := batch.Encode(3, l)
	if len(b) != 1<<22 || e != api.OK {
		t.Fatal(len(b), e)
	}
	if seq, got, e := batch.Decode(b); seq != 3 || !slices.Equal(got, l) || e != api.OK {
		t.Error(seq, len(got), e)
	}
	refuses(t, "one byte behind", append(b, 0), api.ErrLong)
	refuses(t, "noughts", make([]byte, 1<<22+1), api.ErrLong)
	refuses(t, "bytes that can't be", bytes.Repeat([]byte{255}, 1<<22+1), api.ErrLong)
	refuses(t, "as many bytes that can't be", bytes.Repeat([]byte{255}, 1<<22), api.ErrCorrupt)
	refuses(t, "as many noughts", make([]byte, 1<<22), api.ErrMore)
}

// refuses wants bytes that are no batch's.
func refuses(t *testing.T, name string, b []byte, want api.Errno) {
	t.Helper()
	if seq, l, e := batch.Decode(b); seq != 0 || len(l) != 0 || e != want {
		t.Errorf("%s: Decode(%.40x) = %d, %d records, %d, want %d", name, b, seq, len(l), e, want)
	}
}

// P3.2
func TestDecodeHead(t *testing.T) {
	for n := range 12 {
		refuses(t, "part of a head", head(5, 0)[:n], api.ErrShort)
		refuses(t, "part of a head", head(api.MaxSeq, 9)[:n], api.ErrShort)
		want := api.ErrShort
		if n >= 8 {
			want = api.ErrCorrupt // it stands further left than the end
		}
		refuses(t, "a number too great, part of a head", head(api.MaxSeq+1, 0)[:n], want)
	}
	for _, seq := range []uint64{0, 1, api.MaxSeq} {
		if got, l, e := batch.Decode(head(seq, 0)); got != seq || len(l) != 0 || e != api.OK {
			t.Errorf("Decode of none, %d: %d, %d, %d", seq, got, len(l), e)
		}
	}
	const most = api.MaxSeq
	refuses(t, "number", head(most+1, 0), api.ErrCorrupt)
	refuses(t, "number", head(math.MaxUint64, 0), api.ErrCorrupt)
	refuses(t, "number", head(math.MaxUint64, 2), api.ErrCorrupt)
	refuses(t, "last number", head(most, 2), api.ErrCorrupt)
	refuses(t, "last number", head(most-4094, 4096), api.ErrCorrupt)
	refuses(t, "last number fits", head(most, 1), api.ErrShort)
	refuses(t, "last number fits", head(most-4095, 4096), api.ErrShort)
	refuses(t, "most records", head(1, 4096), api.ErrShort)
	refuses(t, "too many records", head(1, 4097), api.ErrCorrupt)
	refuses(t, "too many records", head(1, math.MaxUint32), api.ErrCorrupt)
	refuses(t, "too many records, and more", raw(1, 4097, "\x09"), api.ErrCorrupt)
	refuses(t, "more behind none", raw(1, 0, "\x00"), api.ErrMore)
	refuses(t, "a record behind none", raw(1, 0, "\x01\x00\x01a\x01b"), api.ErrMore)
}

// P3.2: one record that is not what it should be.
func TestDecodeRecord(t *testing.T) {
	for kind := 3; kind < 256; kind++ {
		refuses(t, "kind", raw(1, 1, string([]byte{byte(kind)})), api.ErrCorrupt)
		refuses(t, "kind", raw(1, 1, string([]byte{byte(kind)}), "\x00\x01a\x01b"), api.ErrCorrupt)
	}
	for _, c := range []struct {
		name, record string
		want         api.Errno
	}{
		{"nothing", "", api.ErrShort},
		{"no family", "\x01", api.ErrShort},
		{"within the family", "\x01\x80", api.ErrShort},
		{"within a long family", "\x01\x80\x80\x80\x80\x80", api.ErrShort},
		{"family with a byte too many", "\x01\x80\x00", api.ErrCorrupt},
		{"family with a byte too many", "\x01\x80\x00\x01a\x01b", api.ErrCorrupt},
		{"greatest family, no key", "\x01\xff\xff\xff\xff\x0f", api.ErrShort},
		{"family of 2^32", "\x01\x80\x80\x80\x80\x10", api.ErrCorrupt},
		{"family of 2^32", "\x01\x80\x80\x80\x80\x10\x01a\x01b", api.ErrCorrupt},
		{"family of 2^63", "\x01\x80\x80\x80\x80\x80\x80\x80\x80\x80\x01", api.ErrCorrupt},
		{"family of 2^64", "\x01\x80\x80\x80\x80\x80\x80\x80\x80\x80\x02", api.ErrCorrupt},
		{"within a family of 2^64 or more", "\x01\x80\x80\x80\x80\x80\x80\x80\x80\x80\x80", api.ErrCorrupt},
		{"no key", "\x01\x00", api.ErrShort},
		{"within the key's length", "\x01\x00\x80", api.ErrShort},
		{"key's length with a byte too many", "\x01\x00\x81\x00a\x01b", api.ErrCorrupt},
		{"key too short", "\x01\x00\x02a", api.ErrShort},
		{"key of 1024 bytes, too short", "\x01\x00\x80\x08", api.ErrShort},
		{"key of 1025 bytes, ahead of too short", "\x01\x00\x81\x08", api.ErrCorrupt},
		{"key of 1025 bytes", "\x01\x00\x81\x08" + text(2000), api.ErrCorrupt},
		{"key of 2^63 bytes", "\x01\x00\x80\x80\x80\x80\x80\x80\x80\x80\x80\x01", api.ErrCorrupt},
		{"key of 2^64 - 1 bytes", "\x01\x00\xff\xff\xff\xff\xff\xff\xff\xff\xff\x01", api.ErrCorrupt},
		{"key of 1025 bytes, of Delete", "\x00\x00\x81\x08", api.ErrCorrupt},
		{"key of 1025 bytes, of a range", "\x02\x00\x81\x08", api.ErrCorrupt},
		{"no value", "\x01\x00\x01a", api.ErrShort},
		{"no end", "\x02\x00\x01a", api.ErrShort},
		{"within the value's length", "\x01\x00\x01a\x80", api.ErrShort},
		{"value's length with a byte too many", "\x01\x00\x01a\x81\x00b", api.ErrCorrupt},
		{"value too short", "\x01\x00\x01a\x02b", api.ErrShort},
		{"value of 16384 bytes, too short", "\x01\x00\x01a\x80\x80\x01", api.ErrShort},
		{"value of 16385 bytes, ahead of too short", "\x01\x00\x01a\x81\x80\x01", api.ErrCorrupt},
		{"value of 16385 bytes", "\x01\x00\x01a\x81\x80\x01" + text(20000), api.ErrCorrupt},
		{"value of 2^63 bytes", "\x01\x00\x01a\x80\x80\x80\x80\x80\x80\x80\x80\x80\x01", api.ErrCorrupt},
		{"end of 1024 bytes, too short", "\x02\x00\x01a\x80\x08", api.ErrShort},
		{"end of 1025 bytes, ahead of too short", "\x02\x00\x01a\x81\x08", api.ErrCorrupt},
		{"end of 1025 bytes", "\x02\x00\x01a\x81\x08" + text(1025), api.ErrCorrupt},
		{"more behind Put", "\x01\x00\x01a\x01b\x00", api.ErrMore},
		{"more behind a range", "\x02\x00\x01a\x01b\x00", api.ErrMore},
		{"a value behind Delete", "\x00\x00\x01a\x01b", api.ErrMore},
		{"more behind Delete", "\x00\x00\x01a\x00", api.ErrMore},
		{"a record behind the last one", "\x00\x00\x01a\x00\x00\x01a", api.ErrMore},
	} {
		refuses(t, c.name, raw(1, 1, c.record), c.want)
		// Records that are right, ahead of it, change nothing.
		refuses(t, c.name+", third", raw(1, 3, "\x00\x00\x00\x02\x05\x01a\x00", c.record), c.want)
	}
	refuses(t, "the second one is missing", raw(1, 2, "\x00\x00\x01a"), api.ErrShort)
	refuses(t, "what can't be stands ahead of the end", raw(1, 2, "\x00\x80\x00"), api.ErrCorrupt)
}

// manyRecords are lists of records at the edges, and some by chance.
func manyRecords() [][]api.Record {
	l := [][]api.Record{nil, rightRecords(), some(4096), widest(api.MaxBytes)}
	for seed := range uint64(60) {
		r := rand.New(rand.NewPCG(seed, 35))
		var one []api.Record
		for range r.IntN(30) {
			one = append(one, anyRecord(r))
		}
		l = append(l, one)
	}
	return l
}

// P3.5
func TestThereAndBack(t *testing.T) {
	for i, l := range manyRecords() {
		for _, seq := range []uint64{0, 1, 1 << 40, api.MaxSeq - uint64(max(0, len(l)-1))} {
			b, e := batch.Encode(seq, l)
			if len(b) != bytesOf(l) || e != api.OK {
				t.Fatalf("list %d: %d bytes, %d, want %d", i, len(b), e, bytesOf(l))
			}
			if n, got, e := batch.Decode(b); n != seq || !slices.Equal(got, bare(l)) || e != api.OK {
				t.Errorf("list %d at %d: %d, %d records, %d", i, seq, n, len(got), e)
			}
			if again, e := batch.Encode(seq, bare(l)); !bytes.Equal(again, b) || e != api.OK {
				t.Errorf("list %d at %d: the bytes hang on the value of a Delete", i, seq)
			}
		}
	}
}

// P3.2: what ends too early is told so, wherever it ends; what goes on is told, too.
func TestDecodeCut(t *testing.T) {
	for seed := range uint64(20) {
		r := rand.New(rand.NewPCG(seed, 32))
		l := []api.Record{anyRecord(r), anyRecord(r), anyRecord(r)}
		b, e := batch.Encode(seed, l)
		if e != api.OK {
			t.Fatal(e)
		}
		for n := range b {
			refuses(t, "cut", b[:n:n], api.ErrShort)
		}
		for c := range 256 {
			refuses(t, "longer", append(slices.Clip(b), byte(c)), api.ErrMore)
		}
	}
}

// words reads bytes as the chapter's words have it: an error stays, and nothing is read behind it.
type words struct {
	b []byte
	e api.Errno
}

func (w *words) tell(wrong bool, e api.Errno) {
	if w.e == api.OK && wrong {
		w.e = e
	}
}

func (w *words) next(n uint64) []byte {
	w.tell(uint64(len(w.b)) < n, api.ErrShort)
	if w.e != api.OK {
		return make([]byte, 8)
	}
	b := w.b[:n]
	w.b = w.b[n:]
	return b
}

func (w *words) varint(most uint64) uint64 {
	n, size := binary.Uvarint(w.b)
	w.tell(size < 0 || size == 0 && len(w.b) >= binary.MaxVarintLen64, api.ErrCorrupt)
	// A nought behind the first byte, where the number ends, is one too many.
	w.tell(size > 1 && w.b[size-1] == 0, api.ErrCorrupt)
	w.tell(size == 0, api.ErrShort)
	w.tell(n > most, api.ErrCorrupt)
	if w.e != api.OK {
		return 0
	}
	w.b = w.b[size:]
	return n
}

// readWords is what Decode should answer.
func readWords(b []byte) (uint64, []api.Record, api.Errno) {
	w := &words{b: b}
	w.tell(len(b) > 1<<22, api.ErrLong)
	seq := binary.LittleEndian.Uint64(w.next(8))
	w.tell(seq >= 1<<56, api.ErrCorrupt)
	many := uint64(binary.LittleEndian.Uint32(w.next(4)))
	w.tell(many > 4096 || many > 0 && seq+many-1 >= 1<<56, api.ErrCorrupt)
	var l []api.Record
	for range many {
		if w.e != api.OK {
			break
		}
		r := api.Record{Kind: int(w.next(1)[0])}
		w.tell(r.Kind > 2, api.ErrCorrupt)
		r.Family = uint32(w.varint(1<<32 - 1))
		r.Key = string(w.next(w.varint(1024)))
		switch r.Kind {
		case api.Put:
			r.Value = string(w.next(w.varint(16384)))
		case api.RangeDelete:
			r.Value = string(w.next(w.varint(1024)))
		}
		l = append(l, r)
	}
	w.tell(len(w.b) > 0, api.ErrMore)
	if w.e != api.OK {
		return 0, nil, w.e
	}
	return seq, l, api.OK
}

// asWords wants of bytes what the words say, and that what is read is written as it was.
func asWords(t *testing.T, b []byte) api.Errno {
	t.Helper()
	seq, l, e := batch.Decode(b)
	wantSeq, want, wantErr := readWords(b)
	if seq != wantSeq || !slices.Equal(l, want) || e != wantErr {
		t.Fatalf("Decode(%x) = %d, %v, %d, want %d, %v, %d", b, seq, l, e, wantSeq, want, wantErr)
	}
	if e == api.OK {
		if back, e := batch.Encode(seq, l); !bytes.Equal(back, b) || e != api.OK {
			t.Fatalf("Encode(Decode(%x)) = %x, %d", b, back, e)
		}
	}
	return e
}

// P3.2, P3.5: all short bytes of a few kinds behind a head.
func TestDecodeAllShortBytes(t *testing.T) {
	kinds := []byte{0, 1, 2, 3, 8, 128, 129, 255}
	var behind func(b []byte, left int)
	behind = func(b []byte, left int) {
		asWords(t, b)
		if left == 0 {
			return
		}
		for _, c := range kinds {
			behind(append(b, c), left-1)
		}
	}
	for many := range uint32(3) {
		behind(head(4, many), 6)
	}
}

// P3.2, P3.5: bytes of a batch that were changed somehow.
func TestDecodeChangedBytes(t *testing.T) {
	seen := map[api.Errno]int{}
	for seed := range uint64(20000) {
		r := rand.New(rand.NewPCG(seed, 5))
		l := make([]api.Record, r.IntN(5))
		for i := range l {
			l[i] = anyRecord(r)
		}
		b, e := batch.Encode([]uint64{0, 1, 1 << 40, api.MaxSeq - 3}[r.IntN(4)], l)
		if e != api.OK {
			t.Fatal(seed, e)
		}
		for range r.IntN(4) {
			b = changed(r, b)
		}
		seen[asWords(t, b)]++
	}
	for _, e := range []api.Errno{api.OK, api.ErrCorrupt, api.ErrShort, api.ErrMore} {
		if seen[e] < 100 {
			t.Errorf("error %d was seen %d times only", e, seen[e])
		}
	}
}

// changed is bytes with one change.
func changed(r *rand.Rand, b []byte) []byte {
	at := r.IntN(len(b) + 1)
	if r.IntN(2) == 0 {
		at = min(at, 30)
	}
	c := []byte{0, 1, 2, 3, 127, 128, 129, 255}[r.IntN(8)]
	switch r.IntN(4) {
	case 0:
		return slices.Clone(b[:at])
	case 1:
		return slices.Insert(slices.Clone(b), at, c)
	case 2:
		return slices.Delete(slices.Clone(b), at, min(at+1, len(b)))
	}
	b = slices.Clone(b)
	if at < len(b) {
		b[at] = c
	}
	return b
}

func TestBytesAreNobodyElses(t *testing.T) {
	room := []api.Record{put(1, "a", "b"), {Kind: api.Delete, Key: "k", Value: "v"}, put(9, "spare", "room")}
	was := slices.Clone(room)
	b, e := batch.Encode(5, room[:2])
	if !slices.Equal(room, was) || e != api.OK {
		t.Errorf("Encode changed its records: %v, %d", room, e)
	}
	want := slices.Clone(b)
	other, _ := batch.Encode(5, room[:2])
	clear(other[:cap(other)])
	if !bytes.Equal(b, want) {
		t.Error("two answers of Encode share memory")
	}
	given := append(slices.Clone(b), "spare"...)
	_, l, e := batch.Decode(given[:len(b)])
	if string(given) != string(want)+"spare" || e != api.OK {
		t.Errorf("Decode changed its bytes: %x, %d", given, e)
	}
	clear(given)
	if !slices.Equal(l, bare(room[:2])) {
		t.Errorf("Decode keeps its bytes: %v", l)
	}
}
