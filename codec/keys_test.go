package codec_test

import (
	"bytes"
	"math"
	"slices"
	"strings"
	"testing"

	"sediment/api"
	"sediment/codec"
)

// hows are both comparators, and some that are none.
func hows() []int {
	return []int{api.Bytewise, api.Reverse, 2, 3, -1, math.MaxInt, math.MinInt}
}

// users are all user keys of up to three of a few bytes, the least and the greatest ones among them.
func users() []string {
	out := []string{""}
	last := out
	for range 3 {
		var next []string
		for _, s := range last {
			for _, c := range []string{"\x00", "a", "b", "d", "\xfe", "\xff"} {
				next = append(next, s+c)
			}
		}
		out = append(out, next...)
		last = next
	}
	return out
}

func sign(n int) int {
	switch {
	case n < 0:
		return -1
	case n > 0:
		return 1
	}
	return 0
}

// long is a user key of n bytes.
func long(n int) string { return strings.Repeat("k", n) }

// P1.3
func TestCheck(t *testing.T) {
	for _, c := range []struct {
		key  api.Key
		want api.Errno
	}{
		{api.Key{}, api.OK},
		{api.Key{User: "a", Seq: 1, Kind: api.Put}, api.OK},
		{api.Key{User: "a", Kind: api.Delete}, api.OK},
		{api.Key{User: "a", Kind: api.RangeDelete}, api.OK},
		{api.Key{User: long(1024)}, api.OK},
		{api.Key{User: long(1025)}, api.ErrLong},
		{api.Key{Seq: 1<<56 - 1}, api.OK},
		{api.Key{Seq: 1 << 56}, api.ErrArg},
		{api.Key{Seq: math.MaxUint64}, api.ErrArg},
		{api.Key{Kind: 3}, api.ErrArg},
		{api.Key{Kind: -1}, api.ErrArg},
		{api.Key{Kind: 256}, api.ErrArg},
		{api.Key{Kind: math.MaxInt}, api.ErrArg},
		{api.Key{Kind: math.MinInt}, api.ErrArg},
		{api.Key{User: long(1024), Seq: 1<<56 - 1, Kind: api.RangeDelete}, api.OK},
		{api.Key{User: long(1025), Seq: 1 << 56, Kind: 3}, api.ErrLong},
		{api.Key{User: long(1025), Kind: 3}, api.ErrLong},
		{api.Key{Seq: 1 << 56, Kind: 3}, api.ErrArg},
	} {
		if got := codec.Check(c.key); got != c.want {
			t.Errorf("Check(%d bytes, %d, %d) = %d, want %d", len(c.key.User), c.key.Seq, c.key.Kind, got, c.want)
		}
		if b, e := codec.Encode(c.key); e != c.want || (e != api.OK && len(b) != 0) {
			t.Errorf("Encode(%d bytes, %d, %d) = %x, %d, want %d", len(c.key.User), c.key.Seq, c.key.Kind, b, e, c.want)
		}
	}
}

// P1.3
func TestEncodeBytes(t *testing.T) {
	for _, c := range []struct {
		key  api.Key
		want string
	}{
		{api.Key{User: "a", Seq: 1, Kind: api.Put}, "a\x01\x01\x00\x00\x00\x00\x00\x00"},
		{api.Key{}, "\x00\x00\x00\x00\x00\x00\x00\x00"},
		{api.Key{User: "\x00\xff", Seq: 0x01020304050607, Kind: api.RangeDelete}, "\x00\xff\x02\x07\x06\x05\x04\x03\x02\x01"},
		{api.Key{User: "k", Seq: api.MaxSeq, Kind: api.Delete}, "k\x00\xff\xff\xff\xff\xff\xff\xff"},
	} {
		if b, e := codec.Encode(c.key); string(b) != c.want || e != api.OK {
			t.Errorf("Encode(%v) = %x, %d, want %x", c.key, b, e, c.want)
		}
		if k, e := codec.Decode([]byte(c.want)); k != c.key || e != api.OK {
			t.Errorf("Decode(%x) = %v, %d, want %v", c.want, k, e, c.key)
		}
	}
}

// P1.3
func TestDecodeRefuses(t *testing.T) {
	check := func(b []byte, want api.Errno) {
		t.Helper()
		if k, e := codec.Decode(b); k != (api.Key{}) || e != want {
			t.Errorf("Decode of %d bytes: %v, %d, want %d", len(b), k, e, want)
		}
	}
	check(nil, api.ErrShort)
	for size := range 8 {
		check(full(size), api.ErrShort)
	}
	for kind := 3; kind < 256; kind++ {
		check(append([]byte("user"), codec.Fixed64(5<<8|uint64(kind))...), api.ErrCorrupt)
		check(codec.Fixed64(uint64(kind)), api.ErrCorrupt)
	}
	put := codec.Fixed64(5<<8 | api.Put)
	check(append([]byte(long(1025)), put...), api.ErrCorrupt)
	check(append([]byte(long(1<<16)), put...), api.ErrCorrupt)
	if k, e := codec.Decode(append([]byte(long(1024)), put...)); k != (api.Key{User: long(1024), Seq: 5, Kind: api.Put}) || e != api.OK {
		t.Errorf("Decode of a key of 1024 bytes: %d, %d, %d, %d", len(k.User), k.Seq, k.Kind, e)
	}
}

// keys are internal keys that differ in each of their parts.
func keys() []api.Key {
	var out []api.Key
	for _, user := range []string{"", "a", "ab", "b", "\xff"} {
		for _, seq := range []uint64{0, 1, 255, 256, api.MaxSeq} {
			for kind := range 3 {
				out = append(out, api.Key{User: user, Seq: seq, Kind: kind})
			}
		}
	}
	return out
}

// P1.6
func TestKeysThereAndBack(t *testing.T) {
	more := keys()
	for _, user := range users() {
		more = append(more, api.Key{User: user, Seq: 7, Kind: api.Put})
	}
	for _, k := range more {
		b, e := codec.Encode(k)
		if e != api.OK {
			t.Errorf("Encode(%v): %d", k, e)
		}
		if back, e := codec.Decode(b); back != k || e != api.OK {
			t.Errorf("Decode(Encode(%v)) = %v, %d", k, back, e)
		}
		if again, e := codec.Encode(k); !bytes.Equal(again, b) || e != api.OK {
			t.Errorf("Encode(%v): %x and %x", k, b, again)
		}
	}
}

// P1.4
func TestCompareKnownKeys(t *testing.T) {
	for _, c := range []struct {
		a, b string
		want int
	}{
		{"", "", 0}, {"", "a", -1}, {"a", "", 1}, {"a", "a", 0}, {"a", "b", -1}, {"b", "a", 1},
		{"a", "ab", -1}, {"ab", "b", -1}, {"ab", "a", 1}, {"\x7f", "\x80", -1}, {"\xff", "\x00", 1}, {"a\x00", "a", 1},
	} {
		for _, how := range hows() {
			want := c.want
			if how == api.Reverse {
				want = -want
			}
			if got := codec.Compare(how, c.a, c.b); got != want {
				t.Errorf("Compare(%d, %q, %q) = %d, want %d", how, c.a, c.b, got, want)
			}
		}
	}
}

// P1.4
func TestCompareIsByteByByte(t *testing.T) {
	for _, a := range users() {
		for _, b := range users() {
			want := bytes.Compare([]byte(a), []byte(b))
			if got := codec.Compare(api.Bytewise, a, b); got != want {
				t.Errorf("Compare(Bytewise, %q, %q) = %d", a, b, got)
			}
			if got := codec.Compare(api.Reverse, a, b); got != -want {
				t.Errorf("Compare(Reverse, %q, %q) = %d", a, b, got)
			}
		}
	}
}

// P1.4
func TestOrderKnownKeys(t *testing.T) {
	key := func(user string, seq uint64, kind int) api.Key { return api.Key{User: user, Seq: seq, Kind: kind} }
	sorted := []api.Key{
		key("a", api.MaxSeq, 2), key("a", 9, 0), key("a", 7, 2), key("a", 7, 1), key("a", 7, 0), key("a", 0, 0),
		key("ab", 8, 1), key("b", 9, 0), key("b", 1, 2),
	}
	reversed := []api.Key{
		key("b", 9, 0), key("b", 1, 2), key("ab", 8, 1),
		key("a", api.MaxSeq, 2), key("a", 9, 0), key("a", 7, 2), key("a", 7, 1), key("a", 7, 0), key("a", 0, 0),
	}
	for _, how := range hows() {
		list := sorted
		if how == api.Reverse {
			list = reversed
		}
		for i, a := range list {
			for j, b := range list {
				if got, want := codec.Order(how, a, b), sign(i-j); got != want {
					t.Errorf("Order(%d, %v, %v) = %d, want %d", how, a, b, got, want)
				}
			}
		}
	}
}

// P1.4: also keys that can't be are ordered.
func TestOrderOfKeysThatCantBe(t *testing.T) {
	sorted := []api.Key{
		{Seq: math.MaxUint64, Kind: math.MaxInt}, {Seq: math.MaxUint64}, {Seq: math.MaxUint64, Kind: math.MinInt},
		{Seq: 1 << 63}, {Seq: 1<<63 - 1}, {Kind: 3}, {Kind: -1}, {User: long(1025), Kind: 9},
	}
	for i, a := range sorted {
		for j, b := range sorted {
			if got, want := codec.Order(api.Bytewise, a, b), sign(i-j); got != want {
				t.Errorf("Order(%d, %d) = %d, want %d", i, j, got, want)
			}
		}
	}
}

// isOrder checks that a function orders items: each pair one way only, the same ones just if they are, and through a third one.
func isOrder[T comparable](t *testing.T, items []T, order func(a, b T) int) {
	t.Helper()
	for _, a := range items {
		for _, b := range items {
			ab := order(a, b)
			if ab != -1 && ab != 0 && ab != 1 {
				t.Errorf("%v, %v: %d", a, b, ab)
			}
			if ab != -order(b, a) {
				t.Errorf("%v, %v: both ways the same", a, b)
			}
			if (ab == 0) != (a == b) {
				t.Errorf("%v, %v: %d", a, b, ab)
			}
			for _, c := range items {
				if ab <= 0 && order(b, c) <= 0 && order(a, c) > 0 {
					t.Errorf("%v, %v, %v: not through the middle one", a, b, c)
				}
			}
		}
	}
}

// P1.7
func TestCompareIsAnOrder(t *testing.T) {
	for _, how := range hows() {
		isOrder(t, users()[:60], func(a, b string) int { return codec.Compare(how, a, b) })
	}
}

// P1.7
func TestOrderIsAnOrder(t *testing.T) {
	for _, how := range hows() {
		isOrder(t, keys(), func(a, b api.Key) int { return codec.Order(how, a, b) })
	}
}

// P1.5
func TestBetweenKnownKeys(t *testing.T) {
	for _, c := range [][3]string{
		{"abc", "abf", "abd"},
		{"abc", "abe", "abd"},
		{"abc", "abd", "abc"},
		{"abcxyz", "abf", "abd"},
		{"abcxyz", "abdxyz", "abcxyz"},
		{"a", "ab", "a"},
		{"ab", "a", "ab"},
		{"", "a", ""},
		{"a", "", "a"},
		{"", "", ""},
		{"abc", "abc", "abc"},
		{"b", "a", "b"},
		{"abf", "abc", "abf"},
		{"a\xff", "c", "b"},
		{"a\xffx", "a\xffz", "a\xffy"},
		{"\xff\xff", "\xff\xff\xff", "\xff\xff"},
		{"a\xff", "b", "a\xff"},
		{"a\xfd", "a\xff", "a\xfe"},
		{"a\xfe", "a\xff", "a\xfe"},
		{"\xff", "\xfe", "\xff"},
		{"\xffa", "a", "\xffa"},
		{"\x00", "\x02", "\x01"},
		{"\x7fx", "\x81", "\x80"},
	} {
		if got := codec.Between(api.Bytewise, c[0], c[1]); got != c[2] {
			t.Errorf("Between(%q, %q) = %q, want %q", c[0], c[1], got, c[2])
		}
		for _, how := range hows()[1:] {
			if got := codec.Between(how, c[0], c[1]); got != c[0] {
				t.Errorf("Between(%d, %q, %q) = %q", how, c[0], c[1], got)
			}
			if got := codec.Between(how, c[1], c[0]); got != c[1] {
				t.Errorf("Between(%d, %q, %q) = %q", how, c[1], c[0], got)
			}
		}
	}
}

// P1.5
func TestAfterKnownKeys(t *testing.T) {
	for _, c := range [][2]string{
		{"abc", "b"},
		{"a", "b"},
		{"", ""},
		{"\x00", "\x01"},
		{"\x00\xff", "\x01"},
		{"\x7fa", "\x80"},
		{"\xfe", "\xff"},
		{"\xfe\xff", "\xff"},
		{"\xff", "\xff"},
		{"\xff\xff\xff", "\xff\xff\xff"},
		{"\xffa", "\xffb"},
		{"\xff\xffabc", "\xff\xffb"},
		{"\xff\xfe\xff", "\xff\xff"},
	} {
		if got := codec.After(api.Bytewise, c[0]); got != c[1] {
			t.Errorf("After(%q) = %q, want %q", c[0], got, c[1])
		}
		for _, how := range hows()[1:] {
			if got := codec.After(how, c[0]); got != c[0] {
				t.Errorf("After(%d, %q) = %q", how, c[0], got)
			}
		}
	}
}

// wantBetween is what the document says of Between, Bytewise, word for word.
func wantBetween(a, b string) string {
	if a >= b || strings.HasPrefix(a, b) || strings.HasPrefix(b, a) {
		return a
	}
	i := 0
	for a[i] == b[i] {
		i++
	}
	raised := int(a[i]) + 1
	if a[i] == 255 || raised >= int(b[i]) {
		return a
	}
	return a[:i] + string([]byte{byte(raised)})
}

// P1.5, P1.8
func TestBetweenLiesBetween(t *testing.T) {
	for _, a := range users() {
		for _, b := range users() {
			if got, want := codec.Between(api.Bytewise, a, b), wantBetween(a, b); got != want {
				t.Errorf("Between(%q, %q) = %q, want %q", a, b, got, want)
			}
			for _, how := range hows() {
				if codec.Compare(how, a, b) >= 0 {
					continue
				}
				got := codec.Between(how, a, b)
				if codec.Compare(how, got, a) < 0 || codec.Compare(how, got, b) >= 0 || len(got) > len(a) {
					t.Errorf("Between(%d, %q, %q) = %q", how, a, b, got)
				}
			}
		}
	}
}

// P1.8
func TestAfterIsNotAhead(t *testing.T) {
	for _, a := range append(users(), long(1024), long(1<<16)) {
		for _, how := range hows() {
			got := codec.After(how, a)
			if codec.Compare(how, got, a) < 0 || len(got) > len(a) {
				t.Errorf("After(%d, %q) = %q", how, a, got)
			}
		}
	}
}

// The rule of memory: an answer shares none with what was handed in or with another one.
func TestKeysAreNewMemory(t *testing.T) {
	k := api.Key{User: "user", Seq: 5, Kind: api.Put}
	a, _ := codec.Encode(k)
	b, _ := codec.Encode(k)
	want := slices.Clone(b)
	whole := a[:cap(a)]
	for i := range whole {
		whole[i] = 0xee
	}
	if again, _ := codec.Encode(k); !bytes.Equal(b, want) || !bytes.Equal(again, want) || k.User != "user" {
		t.Error("Encode: two answers share memory")
	}
	handed := append(slices.Clone(want), "spare"...)
	was := slices.Clone(handed)
	got, _ := codec.Decode(handed[:len(want)])
	if !bytes.Equal(handed, was) {
		t.Errorf("Decode changed what it was handed: %x", handed)
	}
	for i := range handed {
		handed[i] = 0xee
	}
	if got != k {
		t.Errorf("Decode kept what it was handed: %v", got)
	}
}
