package wal_test

import (
	"bytes"
	"encoding/hex"
	"testing"

	"sediment/api"
	"sediment/wal"
)

// P5.1
func TestEmptyLog(t *testing.T) {
	for _, log := range []uint32{0, 1, 7, 1<<32 - 1} {
		twice(t, func(t *testing.T, recycled bool) {
			if w := wal.New(log, recycled); w == nil || w.At() != 0 {
				t.Error(w)
			}
		})
	}
}

// P5.1: bytes that were reckoned by hand.
func TestAddKnownBytes(t *testing.T) {
	for _, c := range []struct {
		log      uint32
		recycled bool
		record   string
		want     string
	}{
		{7, false, "abc", "f270e89d030001616263"},
		{0, false, "abc", "f270e89d030001616263"},
		{7, false, "", "052b2843000001"},
		{7, true, "abc", "5e4a8c6503000507000000616263"},
		{0x01020304, true, "", "e19c0c6d00000504030201"},
		{1<<32 - 1, true, "", "5440a5c8000005ffffffff"},
	} {
		w := wal.New(c.log, c.recycled)
		b, e := w.Add([]byte(c.record))
		if hex.EncodeToString(b) != c.want || e != api.OK || w.At() != len(c.want)/2 {
			t.Errorf("Add(%q) to the log %d: %x, %d; At() = %d, want %s", c.record, c.log, b, e, w.At(), c.want)
		}
	}
	w := wal.New(1, false)
	b, e := w.Add(bytes.Repeat([]byte("x"), 300))
	if hex.EncodeToString(b[:7]) != "af7bab882c0101" || len(b) != 307 || e != api.OK {
		t.Errorf("Add of 300 bytes: %x, %d", b, e)
	}
	if b, e := w.Add(nil); hex.EncodeToString(b) != "052b2843000001" || e != api.OK || w.At() != 314 {
		t.Errorf("Add(nil): %x, %d", b, e)
	}
}

// P5.1: the chapter's example.
func TestAddExample(t *testing.T) {
	w := wal.New(7, false)
	if b := add(t, w, "abc"); len(b) != 10 {
		t.Error(len(b))
	}
	record := text(5000)
	b := add(t, w, record)
	if want := join(piece(2, record[:4079]), piece(4, record[4079:])); !bytes.Equal(b, want) || len(record[4079:]) != 921 {
		t.Errorf("%d bytes, want %d", len(b), len(want))
	}
}

// P5.1: a record at each place near a block's end, and of each size that ends near one.
func TestAddNearBlockEnds(t *testing.T) {
	twice(t, func(t *testing.T, recycled bool) {
		head := heads(recycled)
		for n := range 25 {
			sizes := []int{0, 1, 2, n, 100, 5000}
			for blocks := range 3 {
				for more := range 16 {
					sizes = append(sizes, max(0, n-head+blocks*(block-head)+more-8))
				}
			}
			for _, size := range sizes {
				b, record := left(t, recycled, n)
				w := wal.New(7, recycled)
				add(t, w, record)
				next := text(size)
				got := add(t, w, next)
				if want := modelAdd(len(b), 7, recycled, next); !bytes.Equal(got, want) {
					t.Fatalf("%d bytes where %d are left of a block: %d bytes, want %d", size, n, len(got), len(want))
				}
			}
		}
	})
}

// P5.1: what stands where fewer bytes are left than a head has, just as many, and one more.
func TestAddAtBlockEnds(t *testing.T) {
	for _, c := range []struct {
		left   int
		record string
		want   []byte
	}{
		{0, "", piece(1, "")},
		{0, "ab", piece(1, "ab")},
		{1, "ab", join(make([]byte, 1), piece(1, "ab"))},
		{6, "", join(make([]byte, 6), piece(1, ""))},
		{6, "ab", join(make([]byte, 6), piece(1, "ab"))},
		{7, "", piece(1, "")},
		{7, "ab", join(piece(2, ""), piece(4, "ab"))},
		{8, "a", piece(1, "a")},
		{8, "ab", join(piece(2, "a"), piece(4, "b"))},
		{9, "ab", piece(1, "ab")},
		{7, text(4089), join(piece(2, ""), piece(4, text(4089)))},
		{7, text(4090), join(piece(2, ""), piece(3, text(4089)), piece(4, text(4090)[4089:]))},
		{0, text(4089), piece(1, text(4089))},
		{0, text(4090), join(piece(2, text(4089)), piece(4, text(4090)[4089:]))},
	} {
		_, ahead := left(t, false, c.left)
		w := wal.New(9, false)
		add(t, w, ahead)
		if b := add(t, w, c.record); !bytes.Equal(b, c.want) {
			t.Errorf("%d bytes where %d are left: %d bytes, want %d", len(c.record), c.left, len(b), len(c.want))
		}
	}
	for _, c := range []struct {
		left   int
		record string
		want   []byte
	}{
		{10, "ab", join(make([]byte, 10), numbered(5, 9, "ab"))},
		{11, "", numbered(5, 9, "")},
		{11, "ab", join(numbered(6, 9, ""), numbered(8, 9, "ab"))},
		{12, "a", numbered(5, 9, "a")},
		{12, "ab", join(numbered(6, 9, "a"), numbered(8, 9, "b"))},
		{11, text(4086), join(numbered(6, 9, ""), numbered(7, 9, text(4085)), numbered(8, 9, text(4086)[4085:]))},
	} {
		_, ahead := left(t, true, c.left)
		w := wal.New(9, true)
		add(t, w, ahead)
		if b := add(t, w, c.record); !bytes.Equal(b, c.want) {
			t.Errorf("%d bytes where %d are left, recycled: %d bytes, want %d", len(c.record), c.left, len(b), len(c.want))
		}
	}
}

// P5.1: many records, one behind the other.
func TestAddAsTheModel(t *testing.T) {
	r := chance(3)
	for i := range 60 {
		recycled := i%2 == 1
		w := wal.New(uint32(i), recycled)
		for _, record := range texts(someSizes(r, 20)...) {
			want := modelAdd(w.At(), uint32(i), recycled, record)
			if b := add(t, w, record); !bytes.Equal(b, want) {
				t.Fatalf("%d bytes, want %d", len(b), len(want))
			}
		}
	}
}

// P5.1: just as many bytes as a record may have, and more; what is refused changes nothing.
func TestLongestRecord(t *testing.T) {
	twice(t, func(t *testing.T, recycled bool) {
		w := wal.New(3, recycled)
		add(t, w, "ahead")
		at := w.At()
		for _, n := range []int{1<<22 + 1, 1<<22 + 2, 1 << 23} {
			if b, e := w.Add(make([]byte, n)); len(b) != 0 || e != api.ErrLong || w.At() != at {
				t.Errorf("Add of %d bytes: %d bytes, %d; At() = %d", n, len(b), e, w.At())
			}
		}
		record := text(1 << 22)
		want := modelAdd(at, 3, recycled, record)
		if b := add(t, w, record); !bytes.Equal(b, want) {
			t.Errorf("%d bytes, want %d", len(b), len(want))
		}
		all, _ := written(t, 3, recycled, "ahead", record, "behind")
		reads(t, "the longest record", all, 3, []string{"ahead", record, "behind"}, api.Clean, len(all))
	})
}

// P5.1: just as many bytes as there may be ahead of a record, and more.
func TestLongestLog(t *testing.T) {
	t.Parallel()
	w := wal.New(3, false)
	whole := make([]byte, 1024*(block-7)) // it fills 1024 blocks
	for range 256 {
		if b, e := w.Add(whole); len(b) != 1<<22 || e != api.OK {
			t.Fatal(len(b), e)
		}
	}
	if w.At() != 1<<30 {
		t.Fatal(w.At())
	}
	if b := add(t, w, "abc"); !bytes.Equal(b, piece(1, "abc")) {
		t.Errorf("%x", b)
	}
	for _, n := range []int{0, 1, 1 << 22, 1<<22 + 1} {
		if b, e := w.Add(make([]byte, n)); len(b) != 0 || e != api.ErrLong || w.At() != 1<<30+10 {
			t.Errorf("Add of %d bytes: %d bytes, %d; At() = %d", n, len(b), e, w.At())
		}
	}
}

// P5.3
func TestReopen(t *testing.T) {
	twice(t, func(t *testing.T, recycled bool) {
		b, ends := written(t, 7, recycled, texts(3, 0, 5000, 9000)...)
		whole := map[int]int{0: 1}
		for _, n := range ends {
			whole[n] = 1
		}
		for i := range len(b) + 1 {
			if i > 100 && i%block > 40 && i%97 != 0 && whole[i] == 0 {
				continue
			}
			w, e := wal.Reopen(b[:i], 7, recycled)
			if whole[i] == 1 && (w == nil || e != api.OK || w.At() != i) {
				t.Errorf("Reopen of %d bytes: %v, %d", i, w, e)
			}
			if whole[i] == 0 && (w != nil || e != api.ErrCorrupt) {
				t.Errorf("Reopen of %d bytes: %v, %d", i, w, e)
			}
		}
	})
}

// P5.3
func TestReopenRefuses(t *testing.T) {
	b := piece(1, "abc")
	spoilt := bytes.Clone(b)
	spoilt[8] ^= 1
	tail, _ := left(t, false, 5)
	old := join(numbered(5, 7, "new"), numbered(5, 6, "old"))
	for what, b := range map[string][]byte{
		"noughts":                        make([]byte, 1),
		"a block of noughts":             make([]byte, block),
		"noughts behind a record":        append(bytes.Clone(b), 0),
		"noughts up to the block's end":  append(bytes.Clone(tail), 0, 0, 0, 0, 0),
		"other bytes behind a record":    append(bytes.Clone(b), 1),
		"something at the block's end":   append(bytes.Clone(tail), 1, 1, 1, 1, 1),
		"a record that is torn":          b[:9],
		"one that is spoilt":             spoilt,
		"one that does not end":          join(b, piece(2, "a")),
		"an older log behind":            old,
		"an older log":                   old[len(old)/2:],
		"a last fragment without others": piece(4, "a"),
	} {
		for _, recycled := range []bool{false, true} {
			if w, e := wal.Reopen(b, 7, recycled); w != nil || e != api.ErrCorrupt {
				t.Errorf("Reopen of %s: %v, %d", what, w, e)
			}
		}
	}
}

// P5.3: a log whose fragments are of the other sort is gone on with all the same.
func TestReopenAsTheOtherSort(t *testing.T) {
	for recycled, b := range map[bool][]byte{true: piece(1, "abc"), false: numbered(5, 9, "abc")} {
		w, e := wal.Reopen(b, 9, recycled)
		if w == nil || e != api.OK || w.At() != len(b) {
			t.Fatal(w, e)
		}
		if got, want := add(t, w, "d"), modelAdd(len(b), 9, recycled, "d"); !bytes.Equal(got, want) {
			t.Errorf("%x, want %x", got, want)
		}
	}
}

// P5.2, P5.3: just as many bytes as a log may have, and one more.
func TestReadTheLongestLog(t *testing.T) {
	b := make([]byte, 1<<30+1)
	copy(b, piece(1, "abc"))
	reads(t, "the longest log", b[:1<<30], 7, []string{"abc"}, api.Clean, 10)
	reads(t, "too long a log", b, 7, nil, api.Spoiled, 0)
	if w, e := wal.Reopen(b[:1<<30], 7, false); w != nil || e != api.ErrCorrupt {
		t.Error(w, e)
	}
	if w, e := wal.Reopen(b, 7, false); w != nil || e != api.ErrLong {
		t.Error(w, e)
	}
}
