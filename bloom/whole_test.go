package bloom_test

import (
	"bytes"
	"slices"
	"testing"

	"sediment/bloom"
)

// P6.4: of each number of bits, few keys and many.
func TestNoneIsMissed(t *testing.T) {
	r := chance(5)
	for bits := 1; bits <= 64; bits++ {
		for _, n := range []int{1, 2, 7, 500} {
			keys := append(someKeys(r, n), "")
			b := built(t, keys, bits)
			for _, key := range keys {
				if !bloom.May(b, key) {
					t.Errorf("%d bits, %d keys: %q is missed", bits, len(keys), key)
				}
			}
		}
	}
}

// P6.4: more bits are set, one by one, up to all.
func TestNoneIsMissedWithMoreBits(t *testing.T) {
	r := chance(6)
	for range 20 {
		keys := someKeys(r, 1+r.IntN(20))
		b := built(t, keys, 1+r.IntN(20))
		for _, bit := range r.Perm(8 * (len(b) - 1)) {
			b[bit/8] |= 1 << (bit % 8)
			for _, key := range keys {
				if !bloom.May(b, key) {
					t.Errorf("%q is missed in %x", key, b)
				}
			}
		}
		if !bloom.May(b, "any other") {
			t.Error("a filter with all bits set says that a key is not there")
		}
	}
}

// P6.4: filters of which one holds the other's keys, too.
func TestUnionMissesNone(t *testing.T) {
	r := chance(7)
	for range 50 {
		n, bits := 1+r.IntN(40), 1+r.IntN(64)
		one, two := someKeys(r, n), someKeys(r, n)
		u := united(t, built(t, one, bits), built(t, two, bits))
		for _, key := range slices.Concat(one, two) {
			if !bloom.May(u, key) {
				t.Errorf("%q is missed in a union", key)
			}
		}
	}
}

// P6.5: the order of keys.
func TestBuildInAnyOrder(t *testing.T) {
	r := chance(8)
	for range 200 {
		keys, bits := someKeys(r, r.IntN(30)), 1+r.IntN(64)
		want := built(t, keys, bits)
		r.Shuffle(len(keys), func(i, j int) { keys[i], keys[j] = keys[j], keys[i] })
		if !bytes.Equal(built(t, keys, bits), want) {
			t.Errorf("another order of %q is another filter", keys)
		}
	}
}

// P6.5: which of the keys are there several times; how many there are in all says how many bytes the filter has.
func TestBuildOfKeysThatAreThereSeveralTimes(t *testing.T) {
	r := chance(9)
	for range 200 {
		set, bits := counted("k", 1+r.IntN(10)), 1+r.IntN(64)
		one, two := slices.Clone(set), slices.Clone(set)
		for range r.IntN(20) {
			one = append(one, set[r.IntN(len(set))])
			two = append(two, set[r.IntN(len(set))])
		}
		if !bytes.Equal(built(t, one, bits), built(t, two, bits)) {
			t.Errorf("%q and %q are two filters", one, two)
		}
	}
	if a, b := built(t, []string{"a"}, 10), built(t, []string{"a", "a", "a"}, 10); !bytes.Equal(a, b) {
		t.Errorf("a is %x, three times %x", a, b)
	}
}

// P6.5: the bits of a union are those of both, as if each key were set into the one filter.
func TestUnionIsTheBitsOfBoth(t *testing.T) {
	r := chance(10)
	for range 200 {
		n, bits := r.IntN(20), 1+r.IntN(64)
		one, two := someKeys(r, n), someKeys(r, n)
		a, b := built(t, one, bits), built(t, two, bits)
		u := united(t, a, b)
		end := len(u) - 1
		want := blank(len(a), 0, byte(modelProbes(bits)))
		for _, key := range slices.Concat(one, two) {
			for _, bit := range modelBits(key, 8*end, modelProbes(bits)) {
				want[bit/8] |= 1 << (bit % 8)
			}
		}
		if !bytes.Equal(u, want) || !bytes.Equal(u, united(t, b, a)) {
			t.Errorf("Union(%x, %x) = %x, want %x", a, b, u, want)
		}
	}
}

// P6.5: what is put together may be put together in any order.
func TestUnionOfThree(t *testing.T) {
	r := chance(11)
	a, b, c := built(t, someKeys(r, 9), 10), built(t, someKeys(r, 9), 10), built(t, someKeys(r, 9), 10)
	if !bytes.Equal(united(t, united(t, a, b), c), united(t, a, united(t, b, c))) {
		t.Error("a union of three hangs on which two are the first ones")
	}
	if none := blank(len(a), 0, a[len(a)-1]); !bytes.Equal(united(t, a, none), a) {
		t.Error("a union with a filter of no bits is another one")
	}
}

// P6.6
func TestNoKeys(t *testing.T) {
	r := chance(12)
	for bits := 1; bits <= 64; bits++ {
		b := built(t, nil, bits)
		for _, key := range append(someKeys(r, 50), "", "\x00", "a") {
			if bloom.May(b, key) {
				t.Errorf("%d bits: %q may be there", bits, key)
			}
		}
	}
}

// A filter tells of few other keys that they may be there: with ten bits about one of a hundred.
func TestFewOthers(t *testing.T) {
	for _, c := range []struct{ bits, most int }{{4, 2000}, {10, 150}, {20, 5}} {
		b := built(t, counted("in", 2000), c.bits)
		n := 0
		for _, key := range counted("out", 10000) {
			if bloom.May(b, key) {
				n++
			}
		}
		if n > c.most {
			t.Errorf("%d bits: %d of 10000 others may be there", c.bits, n)
		}
	}
}
