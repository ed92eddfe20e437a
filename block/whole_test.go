package block_test

import (
	"bytes"
	"slices"
	"testing"

	"sediment/api"
	"sediment/block"
)

// P8.4
func TestThereAndBack(t *testing.T) {
	for seed := range uint64(1500) {
		r := chance(seed)
		how, restart := r.IntN(2), someRestart(r)
		l := sorted(how, someEntries(r, 40))
		b := built(t, how, restart, l)
		if !bytes.Equal(b, modelBytes(restart, l)) {
			t.Fatalf("Build(%d, %d, %v):\n%x, want\n%x", how, restart, l, b, modelBytes(restart, l))
		}
		x := opened(t, how, b)
		has(t, x, l, max(1, (len(l)+restart-1)/restart))
		if again := built(t, how, restart, x.Entries()); !bytes.Equal(again, b) {
			t.Fatalf("Build of Entries: %x, want %x", again, b)
		}
	}
}

// P8.5
func TestIsASortedList(t *testing.T) {
	for seed := range uint64(300) {
		r := chance(seed)
		how := r.IntN(2)
		l := sorted(how, someEntries(r, 60))
		var keys []api.Key
		for range 12 {
			keys = append(keys, someKey(r, true))
			if len(l) > 0 {
				keys = append(keys, l[r.IntN(len(l))].Key)
			}
		}
		for _, restart := range restarts() {
			x := opened(t, how, built(t, how, restart, l))
			for _, k := range keys {
				tells(t, x, how, l, k)
			}
		}
	}
}

// P8.5: in a great block, at each of its keys and between them.
func TestIsAGreatSortedList(t *testing.T) {
	var l []api.Entry
	r := chance(1)
	for range 20000 {
		user := make([]byte, 1+r.IntN(4))
		for i := range user {
			user[i] = byte('a' + r.IntN(12))
		}
		l = append(l, put(string(user), uint64(r.IntN(3)), "v"+string(user)))
	}
	for _, how := range hows() {
		l = sorted(how, l)
		for _, restart := range []int{1, 16, 500} {
			x := opened(t, how, built(t, how, restart, l))
			for i := 0; i < len(l); i += 1 + restart/16 {
				if v, is := x.Get(l[i].Key); v != l[i].Value || !is {
					t.Fatalf("Get(%v) = %q, %t", l[i].Key, v, is)
				}
				between := l[i].Key
				between.Kind--
				next, there := api.Entry{}, i+1 < len(l)
				if there {
					next = l[i+1]
				}
				if y, is := x.Seek(between); y != next || is != there {
					t.Fatalf("Seek(%v) = %v, %t, want %v, %t", between, y, is, next, there)
				}
			}
			middle := len(l) / 2
			goes(t, "All", x.All(l[middle].Key), l[middle:])
			turned := slices.Clone(l[:middle+1])
			slices.Reverse(turned)
			goes(t, "Back", x.Back(l[middle].Key), turned)
		}
	}
}

// P8.6: of entries that rise Size is how many bytes Build has; of others how many their block would have.
func TestSizeIsHowManyBytes(t *testing.T) {
	for seed := range uint64(1500) {
		r := chance(seed)
		how, restart := r.IntN(2), someRestart(r)
		l := someEntries(r, 40)
		sized(t, restart, l, len(modelBytes(restart, l)), api.OK)
		l = sorted(how, l)
		b := built(t, how, restart, l)
		if n, e := block.Size(restart, l); n != len(b) || e != api.OK {
			t.Fatalf("Size(%d, %v) = %d, %d, want %d", restart, l, n, e, len(b))
		}
	}
}
