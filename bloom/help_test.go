package bloom_test

import (
	"bytes"
	"math/big"
	"math/rand/v2"
	"strconv"
	"testing"

	"sediment/api"
	"sediment/bloom"
)

// number is a great number of its digits.
func number(digits string) *big.Int {
	n, ok := new(big.Int).SetString(digits, 10)
	if !ok {
		panic(digits)
	}
	return n
}

// power is 2 to the n.
func power(n uint) *big.Int { return new(big.Int).Lsh(big.NewInt(1), n) }

// modelHash is Hash by the chapter's words, in numbers that do not wrap round.
func modelHash(key string) *big.Int {
	h := number("14695981039346656037")
	for _, x := range []byte(key) {
		h.Xor(h, big.NewInt(int64(x)))
		h.Mul(h, number("1099511628211"))
		h.Mod(h, power(64))
	}
	h.Xor(h, new(big.Int).Rsh(h, 32))
	h.Mul(h, number("11400714819323198485"))
	h.Mod(h, power(64))
	return h.Xor(h, new(big.Int).Rsh(h, 29))
}

// modelBits is the bits that are a key's probes in a filter of m bits.
func modelBits(key string, m, probes int) []int {
	h := modelHash(key)
	a := new(big.Int).Mod(h, power(32))
	b := new(big.Int).Rsh(h, 32)
	b.SetBit(b, 0, 1)
	var l []int
	for i := range probes {
		n := new(big.Int).Mul(big.NewInt(int64(i)), b)
		n.Add(n, a)
		n.Mod(n, power(32))
		n.Mod(n, big.NewInt(int64(m)))
		l = append(l, int(n.Int64()))
	}
	return l
}

// modelProbes is Probes of bits that are from 1 to 64.
func modelProbes(bits int) int {
	n := bits * 69 / 100
	if n < 1 {
		return 1
	}
	if n > 30 {
		return 30
	}
	return n
}

// modelBuild is Build, of few keys: a filter's bits are first told one by one.
func modelBuild(keys []string, bits int) []byte {
	m := 64
	for m < bits*len(keys) {
		m += 8
	}
	set := make([]bool, m)
	for _, key := range keys {
		for _, bit := range modelBits(key, m, modelProbes(bits)) {
			set[bit] = true
		}
	}
	var out []byte
	for at := 0; at < m; at += 8 {
		x := 0
		for i, worth := range []int{1, 2, 4, 8, 16, 32, 64, 128} {
			if set[at+i] {
				x += worth
			}
		}
		out = append(out, byte(x))
	}
	return append(out, byte(modelProbes(bits)))
}

// modelMay is May of a filter.
func modelMay(filter []byte, key string) bool {
	end := len(filter) - 1
	for _, bit := range modelBits(key, 8*end, int(filter[end])) {
		if int(filter[bit/8])>>(bit%8)%2 == 0 {
			return false
		}
	}
	return true
}

// chance is random numbers that are the same in every run.
func chance(seed uint64) *rand.Rand { return rand.New(rand.NewPCG(6, seed)) }

// someKey is a key, of any bytes or of digits.
func someKey(r *rand.Rand) string {
	if r.IntN(2) == 0 {
		return strconv.Itoa(r.IntN(1000))
	}
	b := make([]byte, r.IntN(20))
	for i := range b {
		b[i] = byte(r.IntN(256))
	}
	return string(b)
}

// someKeys is n keys, of which some may be there several times.
func someKeys(r *rand.Rand, n int) []string {
	var l []string
	for range n {
		l = append(l, someKey(r))
	}
	return l
}

// counted is n keys, none of them twice.
func counted(what string, n int) []string {
	var l []string
	for i := range n {
		l = append(l, what+strconv.Itoa(i))
	}
	return l
}

// built is a filter that can be built.
func built(t *testing.T, keys []string, bits int) []byte {
	t.Helper()
	b, e := bloom.Build(keys, bits)
	if e != api.OK {
		t.Fatalf("Build of %d keys with %d bits: %d", len(keys), bits, e)
	}
	return b
}

// united is a union that can be made.
func united(t *testing.T, a, b []byte) []byte {
	t.Helper()
	u, e := bloom.Union(a, b)
	if e != api.OK {
		t.Fatalf("Union of %d and %d bytes: %d", len(a), len(b), e)
	}
	return u
}

// blank is n bytes, of which the last one says how many probes there are, and the others are all the same.
func blank(n int, x, probes byte) []byte {
	b := bytes.Repeat([]byte{x}, n)
	b[n-1] = probes
	return b
}
