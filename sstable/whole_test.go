package sstable_test

import (
	"bytes"
	"fmt"
	"math"
	"math/rand/v2"
	"slices"
	"testing"

	"sediment/api"
)

// P10.4
func TestThereAndBack(t *testing.T) {
	for seed := range uint64(1500) {
		r := chance(seed)
		o := someOptions(r)
		l, tombs := someEntries(r, o.How, 40), someTombs(r, 6)
		b := built(t, o, l, tombs)
		x := opened(t, o.How, b)
		entries, ranges := everything(o.How, x), x.Tombstones()
		if !slices.Equal(entries, l) || !slices.Equal(ranges, pieces(t, o.How, tombs)) {
			t.Fatalf("%v: %v, %v, want %v, %v", o, entries, ranges, l, tombs)
		}
		if again := built(t, x.Props().Options, entries, ranges); !bytes.Equal(again, b) {
			t.Fatalf("Build of what a table has: %x, want %x", again, b)
		}
	}
}

// P10.5: of each key, whatever the bits and parts.
func TestNoneIsMissed(t *testing.T) {
	for seed := range uint64(300) {
		r := chance(seed)
		o := someOptions(r)
		o.Bits = r.IntN(65)
		l := someEntries(r, o.How, 80)
		x := made(t, o, l, nil)
		for _, y := range l {
			if _, is := x.Get(y.User, math.MaxUint64); !is || !x.May(y.User) {
				t.Errorf("%v: %q is missed", o, y.User)
			}
		}
	}
}

// spoilt is bytes some of whose bits, at most 32 in a row from one on, are others: the first and the last of them, and some between.
func spoilt(r *rand.Rand, b []byte, from, row int) []byte {
	b = slices.Clone(b)
	for i := range row {
		if i == 0 || i == row-1 || r.IntN(2) == 0 {
			b[(from+i)/8] ^= 1 << ((from + i) % 8)
		}
	}
	return b
}

// stretches is the pieces of a table of which P10.6 speaks: where each begins and ends.
func stretches(units [][2]int) [][2]int {
	var l [][2]int
	for _, u := range units[:len(units)-1] {
		end := u[0] + u[1]
		l = append(l, [2]int{u[0], end - 4}, [2]int{end - 4, end})
	}
	foot := units[len(units)-1][0]
	return append(l, [2]int{foot, foot + 24}, [2]int{foot + 24, foot + 28}, [2]int{foot + 28, foot + 36})
}

// P10.6: each bit, and rows of up to 32 of them.
func TestSpoilt(t *testing.T) {
	for _, how := range hows() {
		b := base(t, how).bytes()
		r := chance(uint64(how))
		for _, s := range stretches(opened(t, how, b).Units()) {
			for bit := 8 * s[0]; bit < 8*s[1]; bit++ {
				opens(t, fmt.Sprint("the bit ", bit), how, spoilt(r, b, bit, 1), api.ErrCorrupt)
				row := min(2+r.IntN(31), 8*s[1]-bit)
				opens(t, fmt.Sprint(row, " bits from ", bit), how, spoilt(r, b, bit, row), api.ErrCorrupt)
			}
		}
	}
}

// P10.6: tables of any kind, rows of any bits.
func TestSpoiltSomewhere(t *testing.T) {
	for seed := range uint64(600) {
		r := chance(seed)
		o := someOptions(r)
		b := built(t, o, someEntries(r, o.How, 30), someTombs(r, 5))
		for _, s := range stretches(opened(t, o.How, b).Units()) {
			bit := 8*s[0] + r.IntN(8*(s[1]-s[0]))
			row := min(1+r.IntN(32), 8*s[1]-bit)
			opens(t, fmt.Sprint(row, " bits from ", bit), o.How, spoilt(r, b, bit, row), api.ErrCorrupt)
		}
	}
}

// P10.6: cut off anywhere. (No table begins with the bytes of another one: these end with places, which no further entry could have.)
func TestCutOff(t *testing.T) {
	for _, how := range hows() {
		for _, p := range []plan{base(t, how), planOf(small(how), nil, nil), planOf(great(how), letters(how), nil)} {
			b := p.bytes()
			for n := range b {
				opens(t, fmt.Sprint("cut off at ", n), how, b[:n], api.ErrCorrupt)
			}
		}
	}
}

// P10.7
func TestIsASortedList(t *testing.T) {
	for seed := range uint64(60) {
		r := chance(seed)
		how := r.IntN(2)
		l := someEntries(r, how, 60)
		var keys []api.Key
		for range 8 {
			keys = append(keys, someKey(r, true))
			if len(l) > 0 {
				keys = append(keys, l[r.IntN(len(l))].Key)
			}
		}
		for range 8 {
			o := someOptions(r)
			o.How = how
			x := made(t, o, l, someTombs(r, 3))
			for _, k := range keys {
				tells(t, x, how, l, k)
			}
		}
	}
}

// P10.7: in a great table, of each of its keys.
func TestIsAGreatSortedList(t *testing.T) {
	r := chance(1)
	var l []api.Entry
	for range 20000 {
		user := make([]byte, 1+r.IntN(4))
		for i := range user {
			user[i] = byte('a' + r.IntN(12))
		}
		l = append(l, put(string(user), uint64(r.IntN(3)), "v"+string(user)))
	}
	for _, how := range hows() {
		l = sorted(how, l)
		for _, o := range []api.TableOptions{{How: how, Block: 200, Restart: 4, Part: 8, Bits: 10}, {How: how, Block: 1, Restart: 1, Part: 1}, great(how)} {
			x := made(t, o, l, nil)
			for i := 0; i < len(l); i += 7 {
				if y, is := x.Get(l[i].User, l[i].Seq); y != l[i] || !is || !x.May(l[i].User) {
					t.Fatalf("%v: Get(%v) = %v, %t", o, l[i].Key, y, is)
				}
			}
			middle := len(l) / 2
			goes(t, "All", x.All(l[middle].Key), l[middle:])
			back := slices.Clone(l[:middle+1])
			slices.Reverse(back)
			goes(t, "Back", x.Back(l[middle].Key), back)
		}
	}
}
