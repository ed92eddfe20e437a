package wal_test

import (
	"bytes"
	"testing"

	"sediment/api"
	"sediment/wal"
)

// wholeIn is how many records end within the first n bytes.
func wholeIn(ends []int, n int) int {
	for i, end := range ends {
		if end > n {
			return i
		}
	}
	return len(ends)
}

// P5.4
func TestThereAndBack(t *testing.T) {
	r := chance(4)
	for i := range 200 {
		recycled := i%2 == 1
		log := r.Uint32()
		records := texts(someSizes(r, r.IntN(8))...)
		b, _ := written(t, log, recycled, records...)
		reads(t, "there and back", b, log, records, api.Clean, len(b))
	}
}

// P5.4: each beginning of a log, near the ends of its blocks and fragments; some of those between.
func TestEachBeginning(t *testing.T) {
	twice(t, func(t *testing.T, recycled bool) {
		for _, sizes := range [][]int{
			{3, 0, 5000, 10, 0},
			{block - 7, 5},
			{block - 11, 5},
			{block - 7 - 3, 5},
			{block - 11 - 9, 5},
			{block - 14, 20},
			{block - 22, 20},
			{0, 2 * block, 0, 0},
		} {
			records := texts(sizes...)
			b, ends := written(t, 7, recycled, records...)
			for i := range len(b) + 1 {
				if i%block > 60 && i%block < block-60 && i%53 != 0 && i < len(b)-60 {
					continue
				}
				n := wholeIn(ends, i)
				place := 0
				if n > 0 {
					place = ends[n-1]
				}
				_, how, _ := wal.Read(b[:i], 7)
				if how != api.Clean && how != api.Torn || how == api.Torn && place == i {
					t.Errorf("the first %d of %d bytes end %d", i, len(b), how)
				}
				reads(t, "a beginning", b[:i], 7, records[:n], how, place)
			}
		}
	})
}

// P5.5
func TestOverAnOlderLog(t *testing.T) {
	r := chance(5)
	var hows [4]int
	for range 1500 {
		old, ends := written(t, r.Uint32N(9), r.IntN(4) > 0, texts(someSizes(r, 1+r.IntN(4))...)...)
		sizes := someSizes(r, 1+r.IntN(2))
		if r.IntN(2) == 0 { // the same sizes, so that a fragment of the older log begins where the newer one ends
			b, _ := written(t, 9, true, texts(sizes...)...)
			old, ends = written(t, r.Uint32N(9), true, texts(append(sizes, 5)...)...)
			if len(b) != ends[len(sizes)-1] {
				t.Fatal(len(b), ends)
			}
		}
		records := texts(sizes...)
		b, _ := written(t, 9, true, records...)
		all := bytes.Clone(b)
		if len(old) > len(b) {
			all = append(all, old[len(b):]...)
		}
		_, how, _ := wal.Read(all, 9)
		if how == api.Spoiled {
			t.Errorf("%d bytes over %d: spoiled", len(b), len(old))
		}
		hows[how]++
		reads(t, "over an older log", all, 9, records, how, len(b))
	}
	if hows[api.Clean] < 20 || hows[api.Torn] < 20 || hows[api.Old] < 20 {
		t.Errorf("too few of some end: %v", hows)
	}
}

// P5.5: a fragment of the older log that begins just there, or elsewhere.
func TestOverAnOlderLogKnown(t *testing.T) {
	old, _ := written(t, 6, true, "old", "old", "old")
	reads(t, "the same sizes", join(numbered(5, 7, "new"), old[14:]), 7, []string{"new"}, api.Old, 14)
	reads(t, "another size", join(numbered(5, 7, "newer"), old[16:]), 7, []string{"newer"}, api.Torn, 16)
	reads(t, "up to its end", join(numbered(5, 7, text(31)), old[42:]), 7, []string{text(31)}, api.Clean, 42)
	plain, _ := written(t, 6, false, "old", "old", "old")
	reads(t, "a plain one", join(numbered(5, 7, "n"), plain[12:]), 7, []string{"n"}, api.Torn, 12)
	reads(t, "a plain one, just there", join(numbered(5, 7, text(9)), plain[20:]), 7, []string{text(9)}, api.Torn, 20)
	reads(t, "of a log that came later", join(numbered(5, 7, "new"), numbered(5, 8, "old")), 7, []string{"new"}, api.Old, 14)
}

// fragments is where the fragments of a log begin, with its end.
func fragments(b []byte, recycled bool) []int {
	var l []int
	at := 0
	for at < len(b) {
		if tail := block - at%block; tail < heads(recycled) {
			at += tail
		}
		l = append(l, at)
		at += heads(recycled) + int(b[at+4]) + int(b[at+5])<<8
	}
	return append(l, len(b))
}

// turn changes some of so many bits in a row from a bit on, at least the first of them.
func turn(b []byte, bit, n int, pattern uint32) {
	for i := range n {
		if i == 0 || pattern>>i&1 == 1 {
			b[(bit+i)/8] ^= 1 << ((bit + i) % 8)
		}
	}
}

// P5.6: bits within one fragment, behind its type.
func TestSpoilt(t *testing.T) {
	r := chance(6)
	for i := range 40 {
		recycled := i%2 == 1
		records := texts(append(someSizes(r, 3), 20, 5000)...)
		b, ends := written(t, 7, recycled, records...)
		at := fragments(b, recycled)
		for range 60 {
			f := r.IntN(len(at) - 1)
			size := heads(recycled) + int(b[at[f]+4]) + int(b[at[f]+5])<<8
			bits := (size - 7) * 8
			if bits == 0 {
				continue
			}
			bit := r.IntN(bits)
			spoilt := bytes.Clone(b)
			turn(spoilt, (at[f]+7)*8+bit, min(1+r.IntN(32), bits-bit), r.Uint32())
			n := wholeIn(ends, at[f])
			how, place := api.Spoiled, 0
			if recycled {
				how = api.Torn
			}
			if n > 0 {
				place = ends[n-1]
			}
			reads(t, "spoilt", spoilt, 7, records[:n], how, place)
		}
	}
}

// P5.6: every bit of a small log, behind its types.
func TestEachBitSpoilt(t *testing.T) {
	twice(t, func(t *testing.T, recycled bool) {
		records := []string{"abc", "", "defgh"}
		b, ends := written(t, 7, recycled, records...)
		at := fragments(b, recycled)
		for f := range len(at) - 1 {
			for bit := (at[f] + 7) * 8; bit < at[f+1]*8; bit++ {
				spoilt := bytes.Clone(b)
				turn(spoilt, bit, 1, 0)
				l, how, place := wal.Read(spoilt, 7)
				n := wholeIn(ends, at[f])
				if !same(l, records[:n]) || how == api.Clean || place != at[f] {
					t.Errorf("bit %d: %d records, %d, %d", bit, len(l), how, place)
				}
			}
		}
	})
}

// P5.7
func TestGoesOn(t *testing.T) {
	r := chance(7)
	for i := range 100 {
		recycled := i%2 == 1
		records := texts(append(someSizes(r, 1+r.IntN(4)), 0, 9)...)
		b, ends := written(t, uint32(i), recycled, records...)
		for n, end := range append([]int{0}, ends...) {
			w, e := wal.Reopen(b[:end], uint32(i), recycled)
			if w == nil || e != api.OK {
				t.Fatalf("Reopen of %d bytes: %d", end, e)
			}
			on := bytes.Clone(b[:end])
			for _, record := range records[n:] {
				if w.At() != len(on) {
					t.Errorf("At() = %d, want %d", w.At(), len(on))
				}
				on = append(on, add(t, w, record)...)
			}
			if !bytes.Equal(on, b) {
				t.Errorf("reopened behind %d bytes: %d bytes, want %d", end, len(on), len(b))
			}
			if b, e := w.Add(make([]byte, 1<<22+1)); len(b) != 0 || e != api.ErrLong || w.At() != len(on) {
				t.Errorf("Add of too many bytes: %d, %d; At() = %d", len(b), e, w.At())
			}
		}
	}
}

// spare is bytes with room behind them, in which something stands.
func spare(s string) []byte {
	b := append(make([]byte, 0, len(s)+64), s...)
	for i := range b[len(b):cap(b)] {
		b[:cap(b)][len(s)+i] = 0xee
	}
	return b
}

// kept tells whether bytes that spare made, and what stands behind them, are as they were.
func kept(b []byte, s string) bool {
	return string(b[:cap(b)]) == string(spare(s)[:cap(b)])
}

// fill overwrites bytes, and the room behind them.
func fill(b []byte, c byte) {
	b = b[:cap(b)]
	for i := range b {
		b[i] = c
	}
}

// What is handed in is neither changed nor kept, and what is answered is new memory.
func TestWritersMemory(t *testing.T) {
	twice(t, func(t *testing.T, recycled bool) {
		w := wal.New(7, recycled)
		for _, record := range texts(3, 0, 5000, 9) {
			in := spare(record)
			want := modelAdd(w.At(), 7, recycled, record)
			b, _ := w.Add(in)
			if !kept(in, record) {
				t.Error("Add changed what it was handed")
			}
			fill(in, 0x11)
			if !bytes.Equal(b, want) {
				t.Error("Add kept what it was handed")
			}
			fill(b, 0x22)
		}
	})
}

// The same of Read and Reopen.
func TestReadersMemory(t *testing.T) {
	twice(t, func(t *testing.T, recycled bool) {
		records := texts(3, 0, 5000, 9, 4)
		b, _ := written(t, 7, recycled, records...)
		in := spare(string(b))
		l, _, _ := wal.Read(in, 7)
		w, _ := wal.Reopen(in, 7, recycled)
		again, _, _ := wal.Read(in, 7)
		if !kept(in, string(b)) {
			t.Error("Read or Reopen changed what it was handed")
		}
		fill(in, 0x11)
		for i, record := range l {
			if !same(l[i:], records[i:]) || !same(again, records) {
				t.Error("Read kept what it was handed, or answers share memory")
			}
			fill(record, 0x22)
		}
		if got := add(t, w, "on"); !bytes.Equal(got, modelAdd(len(b), 7, recycled, "on")) {
			t.Error("Reopen kept what it was handed")
		}
	})
}

// Two writers know nothing of one another.
func TestTwoWriters(t *testing.T) {
	a, b := wal.New(1, true), wal.New(2, false)
	add(t, a, text(5000))
	if got := add(t, b, "abc"); !bytes.Equal(got, piece(1, "abc")) || a.At() != 5022 {
		t.Errorf("%x, %d", got, a.At())
	}
	if got := add(t, a, "abc"); !bytes.Equal(got, numbered(5, 1, "abc")) || b.At() != 10 {
		t.Errorf("%x, %d", got, b.At())
	}
}
