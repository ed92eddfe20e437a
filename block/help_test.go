package block_test

import (
	"bytes"
	"iter"
	"math"
	"math/rand/v2"
	"slices"
	"strings"
	"testing"

	"sediment/api"
	"sediment/block"
)

func key(user string, seq uint64, kind int) api.Key {
	return api.Key{User: user, Seq: seq, Kind: kind}
}

func entry(user string, seq uint64, kind int, value string) api.Entry {
	return api.Entry{Key: key(user, seq, kind), Value: value}
}

func put(user string, seq uint64, value string) api.Entry { return entry(user, seq, api.Put, value) }

// text is n bytes.
func text(n int) string { return strings.Repeat("t", n) }

// hows are both comparators.
func hows() []int { return []int{api.Bytewise, api.Reverse} }

// wrongHows are numbers that are no comparator's.
func wrongHows() []int { return []int{2, 3, -1, math.MaxInt, math.MinInt} }

// restarts are how many entries may lie from one whole entry to the next one, and wrongRestarts how many may not.
func restarts() []int { return []int{1, 2, 3, 4, 7, 16, 1023, 1024} }

func wrongRestarts() []int { return []int{0, -1, 1025, math.MaxInt, math.MinInt} }

// many is n entries that rise, by both comparators: they have one user key.
func many(n int) []api.Entry {
	l := make([]api.Entry, n)
	for i := range l {
		l[i] = put("", uint64(n-i), "")
	}
	return l
}

// built is the bytes of entries of which Build must make some.
func built(t *testing.T, how, restart int, l []api.Entry) []byte {
	t.Helper()
	b, e := block.Build(how, restart, l)
	if e != api.OK {
		t.Fatalf("Build(%d, %d, %d entries): %d", how, restart, len(l), e)
	}
	return b
}

// opened is the block of bytes that must be one.
func opened(t *testing.T, how int, b []byte) *block.Block {
	t.Helper()
	x, e := block.Open(how, b)
	if x == nil || e != api.OK {
		t.Fatalf("Open(%d, %d bytes): %v, %d", how, len(b), x, e)
	}
	return x
}

// refuses wants Build's error, and nothing beside it.
func refuses(t *testing.T, how, restart int, l []api.Entry, want api.Errno) {
	t.Helper()
	if b, e := block.Build(how, restart, l); len(b) != 0 || e != want {
		t.Errorf("Build(%d, %d, %d entries): %d bytes, %d, want %d", how, restart, len(l), len(b), e, want)
	}
}

// sized wants Size's answer.
func sized(t *testing.T, restart int, l []api.Entry, n int, want api.Errno) {
	t.Helper()
	if got, e := block.Size(restart, l); got != n || e != want {
		t.Errorf("Size(%d, %d entries) = %d, %d, want %d, %d", restart, len(l), got, e, n, want)
	}
}

// checks wants Check's answer, and that Open tells the same.
func checks(t *testing.T, what string, how int, b []byte, want api.Errno) {
	t.Helper()
	if e := block.Check(how, b); e != want {
		t.Errorf("%s: Check(%d, %d bytes) = %d, want %d", what, how, len(b), e, want)
	}
	if x, e := block.Open(how, b); (x == nil) != (want != api.OK) || e != want {
		t.Errorf("%s: Open(%d, %d bytes): nil %t, %d, want %d", what, how, len(b), x == nil, e, want)
	}
}

// goes wants what is gone through.
func goes(t *testing.T, what string, seq iter.Seq[api.Entry], want []api.Entry) {
	t.Helper()
	if got := slices.Collect(seq); !slices.Equal(got, want) {
		t.Errorf("%s: %v, want %v", what, got, want)
	}
}

// comesFirst tells whether an internal key is ahead of another one.
func comesFirst(how int, a, b api.Key) bool {
	c := bytes.Compare([]byte(a.User), []byte(b.User))
	switch {
	case c != 0:
		return (c < 0) == (how == api.Bytewise)
	case a.Seq != b.Seq:
		return a.Seq > b.Seq
	}
	return a.Kind > b.Kind
}

// sorted is entries in order, each key once.
func sorted(how int, l []api.Entry) []api.Entry {
	l = slices.Clone(l)
	slices.SortStableFunc(l, func(a, b api.Entry) int {
		switch {
		case comesFirst(how, a.Key, b.Key):
			return -1
		case comesFirst(how, b.Key, a.Key):
			return 1
		}
		return 0
	})
	return slices.CompactFunc(l, func(a, b api.Entry) bool { return a.Key == b.Key })
}

// varint and fixed are numbers as bytes, keyBytes a key.
func varint(n uint64) string {
	if n < 128 {
		return string([]byte{byte(n)})
	}
	return string([]byte{byte(n%128) + 128}) + varint(n/128)
}

func fixed(n uint32) string {
	return string([]byte{byte(n), byte(n >> 8), byte(n >> 16), byte(n >> 24)})
}

func keyBytes(k api.Key) string {
	return k.User + string([]byte{byte(k.Kind)}) + fixed(uint32(k.Seq)) + string([]byte{byte(k.Seq >> 32), byte(k.Seq >> 40), byte(k.Seq >> 48)})
}

// raw is an entry as it is written, whatever it says: its lengths, then its bytes.
type raw struct {
	common, left, value uint64
	bytes               string
}

// rawOf is an entry of which so many bytes are in common.
func rawOf(common int, x api.Entry) raw {
	left := keyBytes(x.Key)[common:]
	return raw{uint64(common), uint64(len(left)), uint64(len(x.Value)), left + x.Value}
}

func (r raw) String() string { return varint(r.common) + varint(r.left) + varint(r.value) + r.bytes }

// foot is places, and how many.
func foot(places ...uint32) string {
	var b strings.Builder
	for _, p := range places {
		b.WriteString(fixed(p))
	}
	return b.String() + fixed(uint32(len(places)))
}

// blockOf is the bytes of written entries with places behind them.
func blockOf(l []raw, places ...uint32) []byte {
	var b strings.Builder
	for _, r := range l {
		b.WriteString(r.String())
	}
	return []byte(b.String() + foot(places...))
}

// modelBytes is a block's bytes by the chapter's words.
func modelBytes(restart int, l []api.Entry) []byte {
	var b strings.Builder
	var places []uint32
	ahead := ""
	for i, x := range l {
		k, common := keyBytes(x.Key), 0
		if i%restart == 0 {
			places = append(places, uint32(b.Len()))
		} else {
			for common < len(k) && strings.HasPrefix(ahead, k[:common+1]) {
				common++
			}
		}
		b.WriteString(rawOf(common, x).String())
		ahead = k
	}
	if len(l) == 0 {
		places = []uint32{0}
	}
	return []byte(b.String() + foot(places...))
}

// takeVarint is the number with which s begins, what is behind it, and whether it can be.
func takeVarint(s string) (uint64, string, bool) {
	n := uint64(0)
	for i := range min(len(s), 10) {
		c := uint64(s[i])
		if i == 9 && c > 1 || i > 0 && c == 0 {
			return 0, "", false
		}
		n += c % 128 << (7 * i)
		if c < 128 {
			return n, s[i+1:], true
		}
	}
	return 0, "", false
}

// takeKey is the key whose bytes s are, and whether it can be.
func takeKey(s string) (api.Key, bool) {
	if len(s) < 8 || len(s) > 8+1024 {
		return api.Key{}, false
	}
	user, tail := s[:len(s)-8], s[len(s)-8:]
	seq := uint64(0)
	for i := 7; i > 0; i-- {
		seq = seq*256 + uint64(tail[i])
	}
	return key(user, seq, int(tail[0])), tail[0] <= 2
}

// modelEntries reads entries from the left: these, where each begins that has nothing in common, and whether all of them can be.
func modelEntries(how int, s string) (l []api.Entry, wholes []uint32, ok bool) {
	rest, ahead := s, ""
	for rest != "" {
		place := uint32(len(s) - len(rest))
		var n [3]uint64
		for i := range n {
			if n[i], rest, ok = takeVarint(rest); !ok {
				return nil, nil, false
			}
		}
		if n[0] > uint64(len(ahead)) || n[1] > uint64(len(rest)) || n[2] > 16384 || n[1]+n[2] > uint64(len(rest)) {
			return nil, nil, false
		}
		ahead = ahead[:n[0]] + rest[:n[1]]
		k, can := takeKey(ahead)
		if !can || len(l) > 0 && !comesFirst(how, l[len(l)-1].Key, k) || len(l) == 65536 {
			return nil, nil, false
		}
		l = append(l, api.Entry{Key: k, Value: rest[n[1] : n[1]+n[2]]})
		rest = rest[n[1]+n[2]:]
		if n[0] == 0 {
			wholes = append(wholes, place)
		}
	}
	return l, wholes, true
}

// modelCheck is Check by the chapter's words.
func modelCheck(how int, b []byte) api.Errno {
	if how != api.Bytewise && how != api.Reverse {
		return api.ErrArg
	}
	if len(b) > 1<<22 {
		return api.ErrLong
	}
	if len(b) < 8 {
		return api.ErrShort
	}
	number := func(at int) uint32 {
		return uint32(b[at]) + uint32(b[at+1])<<8 + uint32(b[at+2])<<16 + uint32(b[at+3])<<24
	}
	n := uint64(number(len(b) - 4))
	if uint64(len(b)) < 4*n+4 {
		return api.ErrShort
	}
	if n == 0 {
		return api.ErrCorrupt
	}
	end := len(b) - 4 - 4*int(n)
	var places []uint32
	for at := end; at < len(b)-4; at += 4 {
		places = append(places, number(at))
	}
	l, wholes, ok := modelEntries(how, string(b[:end]))
	if len(l) == 0 {
		wholes = []uint32{0}
	}
	if !ok || places[0] != 0 {
		return api.ErrCorrupt
	}
	for i, p := range places {
		if i > 0 && p <= places[i-1] || !slices.Contains(wholes, p) {
			return api.ErrCorrupt
		}
	}
	return api.OK
}

// tells wants a block to tell what the list of its entries tells, at a key.
func tells(t *testing.T, x *block.Block, how int, l []api.Entry, k api.Key) {
	t.Helper()
	value, there := "", false
	for _, y := range l {
		if y.Key == k {
			value, there = y.Value, true
		}
	}
	if v, is := x.Get(k); v != value || is != there {
		t.Errorf("Get(%v) = %q, %t, want %q, %t", k, v, is, value, there)
	}
	all := slices.DeleteFunc(slices.Clone(l), func(y api.Entry) bool { return comesFirst(how, y.Key, k) })
	goes(t, "All", x.All(k), all)
	first, is := api.Entry{}, len(all) > 0
	if is {
		first = all[0]
	}
	if y, ok := x.Seek(k); y != first || ok != is {
		t.Errorf("Seek(%v) = %v, %t, want %v, %t", k, y, ok, first, is)
	}
	back := slices.DeleteFunc(slices.Clone(l), func(y api.Entry) bool { return comesFirst(how, k, y.Key) })
	slices.Reverse(back)
	goes(t, "Back", x.Back(k), back)
}

// has wants a block to have just some entries, and so many places.
func has(t *testing.T, x *block.Block, l []api.Entry, places int) {
	t.Helper()
	if got := x.Entries(); !slices.Equal(got, l) {
		t.Errorf("Entries: %v, want %v", got, l)
	}
	if x.Len() != len(l) || x.Restarts() != places {
		t.Errorf("Len %d, Restarts %d, want %d, %d", x.Len(), x.Restarts(), len(l), places)
	}
	first, last, is := api.Entry{}, api.Entry{}, len(l) > 0
	if is {
		first, last = l[0], l[len(l)-1]
	}
	if y, ok := x.First(); y != first || ok != is {
		t.Errorf("First() = %v, %t, want %v, %t", y, ok, first, is)
	}
	if y, ok := x.Last(); y != last || ok != is {
		t.Errorf("Last() = %v, %t, want %v, %t", y, ok, last, is)
	}
}

// chance is random numbers that are the same in every run.
func chance(seed uint64) *rand.Rand { return rand.New(rand.NewPCG(8, seed)) }

// someUser is a user key; of many of them some are beginnings of others, and some are as others with a number and a kind behind them.
func someUser(r *rand.Rand) string {
	if r.IntN(8) == 0 {
		return someUser(r) + "\x01\x05\x00\x00\x00\x00\x00\x00"[:r.IntN(9)]
	}
	return []string{"", "\x00", "a", "a\x00", "a\x01", "aa", "ab", "abc", "b", "ba", "c", "\x7f", "\x80", "\xff", "\xff\xff", text(130)}[r.IntN(16)]
}

// someKey is a key; now and then one that can't be, if it may.
func someKey(r *rand.Rand, wrong bool) api.Key {
	seq, kind := uint64(r.IntN(12)), r.IntN(3)
	if r.IntN(10) == 0 {
		seq = api.MaxSeq - uint64(r.IntN(2))
	}
	if wrong && r.IntN(6) == 0 {
		seq, kind = math.MaxUint64-uint64(r.IntN(2)), []int{-1, 3, math.MinInt, math.MaxInt}[r.IntN(4)]
	}
	return key(someUser(r), seq, kind)
}

// someEntries is at most n entries, in any order, a key perhaps several times.
func someEntries(r *rand.Rand, n int) []api.Entry {
	var l []api.Entry
	for range r.IntN(n + 1) {
		l = append(l, api.Entry{Key: someKey(r, false), Value: []string{"", "x", "yz", text(127), text(128)}[r.IntN(5)]})
	}
	return l
}

// someRestart is a small one, as a rule.
func someRestart(r *rand.Rand) int { return []int{1, 1, 2, 3, 4, 5, 8, 16, 1024}[r.IntN(9)] }
