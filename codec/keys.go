package codec

import (
	"cmp"
	"strings"

	"sediment/api"
)

// kindRoom is by how much a sequence number is multiplied, so that the kind finds room below it.
const kindRoom = 1 << 8

// topByte is the greatest byte, than which none is greater by one.
const topByte = 1<<8 - 1

// Check tells whether an internal key can be.
func Check(k api.Key) api.Errno {
	switch {
	case len(k.User) > api.MaxKey:
		return api.ErrLong
	case k.Seq > api.MaxSeq:
		return api.ErrArg
	case k.Kind < api.Delete || k.Kind > api.RangeDelete:
		return api.ErrArg
	}
	return api.OK
}

// Encode is an internal key as bytes: the user key, then the sequence number and the kind in one fixed number.
func Encode(k api.Key) ([]byte, api.Errno) {
	if e := Check(k); e != api.OK {
		return nil, e
	}
	return append([]byte(k.User), Fixed64(k.Seq*kindRoom+uint64(k.Kind))...), api.OK
}

// Decode is the internal key whose bytes b are.
func Decode(b []byte) (api.Key, api.Errno) {
	if len(b) < size64 {
		return api.Key{}, api.ErrShort
	}
	user, tail := b[:len(b)-size64], b[len(b)-size64:]
	n := readFixed(tail)
	k := api.Key{User: string(user), Seq: n / kindRoom, Kind: int(n % kindRoom)}
	if Check(k) != api.OK {
		return api.Key{}, api.ErrCorrupt
	}
	return k, api.OK
}

// Compare orders user keys: -1, 0, 1 if a comes ahead of b, is the same, comes behind.
func Compare(how int, a, b string) int {
	if how == api.Reverse {
		return strings.Compare(b, a)
	}
	return strings.Compare(a, b)
}

// Order orders internal keys: of one user key what was done last comes first, for that is what a reader looks for.
func Order(how int, a, b api.Key) int {
	if c := Compare(how, a.User, b.User); c != 0 {
		return c
	}
	if c := cmp.Compare(b.Seq, a.Seq); c != 0 {
		return c
	}
	return cmp.Compare(b.Kind, a.Kind)
}

// Between is a short user key from a on and ahead of b, if a comes ahead of b.
func Between(how int, a, b string) string {
	if how != api.Bytewise || a >= b {
		return a
	}
	i := shared(a, b)
	// Where both have a byte, a's is the lower one: one more does not wrap round.
	if i == len(a) || a[i]+1 == b[i] {
		return a
	}
	return raised(a, i)
}

// After is a short user key from a on.
func After(how int, a string) string {
	if how != api.Bytewise {
		return a
	}
	for i := range len(a) {
		if a[i] < topByte {
			return raised(a, i)
		}
	}
	return a
}

// shared is how many bytes a and b have in common at their beginnings.
func shared(a, b string) int {
	least := min(len(a), len(b))
	for i := range least {
		if a[i] != b[i] {
			return i
		}
	}
	return least
}

// raised is a up to its byte i, with that one more.
func raised(a string, i int) string { return a[:i] + string([]byte{a[i] + 1}) }
