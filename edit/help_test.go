package edit_test

import (
	"encoding/binary"
	"fmt"
	"math"
	"math/rand/v2"
	"slices"
	"strings"
	"testing"

	"sediment/api"
	"sediment/edit"
)

// chance is random numbers that are the same in every run.
func chance(seed uint64) *rand.Rand { return rand.New(rand.NewPCG(13, seed)) }

// hows are both comparators.
func hows() []int { return []int{api.Bytewise, api.Reverse} }

// wrongHows are numbers that are no comparator.
func wrongHows() []int { return []int{-1, 2, 3, 256, 257, math.MaxInt, math.MinInt} }

// wrongLevels are numbers that are no level.
func wrongLevels() []int { return []int{-1, 7, 8, 256, 1 << 32, math.MaxInt, math.MinInt} }

// text is n bytes.
func text(n int) string { return strings.Repeat("t", n) }

func key(user string, seq uint64, kind int) api.Key {
	return api.Key{User: user, Seq: seq, Kind: kind}
}

// end is the Largest of a file whose last key is the end of a range, which is not in the file.
func end(user string) api.Key { return key(user, api.MaxSeq, api.RangeDelete) }

// file is a file from one user key to another one.
func file(number uint64, least, greatest string) api.File {
	return between(number, key(least, 9, api.Put), key(greatest, 1, api.Put))
}

// between is a file from one key to another one.
func between(number uint64, least, greatest api.Key) api.File {
	return api.File{Number: number, Size: 10 * number, Smallest: least, Largest: greatest, Entries: 2, Ranges: 1}
}

func added(level int, f api.File) api.Added { return api.Added{Level: level, File: f} }

func gone(level int, number uint64) api.Gone { return api.Gone{Level: level, Number: number} }

// adds is an edit that says only what is added.
func adds(l ...api.Added) api.Edit { return api.Edit{Added: l} }

// takes is an edit that says only what is gone.
func takes(l ...api.Gone) api.Edit { return api.Edit{Gone: l} }

// version is a version with files in its first levels.
func version(levels ...[]api.File) api.Version {
	var v api.Version
	copy(v.Levels[:], levels)
	return v
}

// at is a version with files in one level alone.
func at(level int, files ...api.File) api.Version {
	var v api.Version
	v.Levels[level] = files
	return v
}

// manyGone is n files that are gone.
func manyGone(n int) []api.Gone { return slices.Repeat([]api.Gone{gone(3, 5)}, n) }

// manyAdded is n files that are added.
func manyAdded(n int) []api.Added { return slices.Repeat([]api.Added{added(3, file(5, "a", "b"))}, n) }

// row is n files that lie one behind the other by a comparator, with the numbers from first on.
func row(how, n int, first uint64) []api.File {
	l := make([]api.File, n)
	for i := range l {
		user := i
		if how == api.Reverse {
			user = n - i
		}
		l[i] = file(first+uint64(i), fmt.Sprintf("%06d", user), fmt.Sprintf("%06d", user))
	}
	return l
}

// fallen is n files of which each has a number one below the one ahead, from last on up.
func fallen(n int, last uint64) []api.File {
	l := make([]api.File, n)
	for i := range l {
		l[i] = file(last+uint64(n-1-i), "k", "k")
	}
	return l
}

// wrongKeys are keys that can't be, each with codec.Check's error.
func wrongKeys() map[api.Key]api.Errno {
	return map[api.Key]api.Errno{
		key(text(1025), 1, api.Put):            api.ErrLong,
		key(text(1025), api.MaxSeq+1, 3):       api.ErrLong,
		key("k", api.MaxSeq+1, api.Put):        api.ErrArg,
		key("k", math.MaxUint64, api.Delete):   api.ErrArg,
		key("k", 1, 3):                         api.ErrArg,
		key("k", 1, -1):                        api.ErrArg,
		key("k", 1, 256):                       api.ErrArg,
		key("k", api.MaxSeq+1, math.MinInt):    api.ErrArg,
		key(text(1<<16), 1, api.RangeDelete):   api.ErrLong,
		key("", math.MaxUint64, math.MaxInt):   api.ErrArg,
		key(text(1024), 1<<56, api.Put):        api.ErrArg,
		key(text(1024), api.MaxSeq, api.Put+2): api.ErrArg,
	}
}

// short is something that can be told in a line.
func short(x any) string {
	s := fmt.Sprintf("%+v", x)
	if len(s) > 300 {
		return s[:300] + "..."
	}
	return s
}

// varint is a varint, written elsewhere than in the program.
func varint(n uint64) string { return string(binary.AppendUvarint(nil, n)) }

// keyBytes is a key in an edit's bytes.
func keyBytes(k api.Key) string {
	b := string(binary.LittleEndian.AppendUint64([]byte(k.User), k.Seq<<8|uint64(k.Kind)))
	return varint(uint64(len(b))) + b
}

// goneBytes is a part 7.
func goneBytes(g api.Gone) string { return "\x07" + varint(uint64(g.Level)) + varint(g.Number) }

// addedBytes is a part 8.
func addedBytes(a api.Added) string {
	f := a.File
	s := "\x08"
	for _, n := range []uint64{uint64(a.Level), f.Number, f.Size, f.Entries, f.Ranges} {
		s += varint(n)
	}
	return s + keyBytes(f.Smallest) + keyBytes(f.Largest)
}

// bytesOf is the bytes of an edit that can be, in the chapter's words.
func bytesOf(e api.Edit) string {
	var s strings.Builder
	s.WriteString("\x01" + varint(uint64(e.Family)))
	if e.Make {
		s.WriteString("\x02" + varint(uint64(e.How)) + varint(uint64(len(e.Name))) + e.Name)
	}
	if e.Drop {
		s.WriteString("\x03")
	}
	if e.HasLog {
		s.WriteString("\x04" + varint(e.Log))
	}
	if e.HasNext {
		s.WriteString("\x05" + varint(e.Next))
	}
	if e.HasSeq {
		s.WriteString("\x06" + varint(e.Seq))
	}
	for _, g := range e.Gone {
		s.WriteString(goneBytes(g))
	}
	for _, a := range e.Added {
		s.WriteString(addedBytes(a))
	}
	return s.String()
}

// bare is an edit as it is read: what is not said is zero.
func bare(e api.Edit) api.Edit {
	if !e.Make {
		e.Name, e.How = "", 0
	}
	if !e.HasLog {
		e.Log = 0
	}
	if !e.HasNext {
		e.Next = 0
	}
	if !e.HasSeq {
		e.Seq = 0
	}
	return e
}

// exactly tells whether two edits are the same in all their fields.
func exactly(a, b api.Edit) bool {
	gone, added := slices.Equal(a.Gone, b.Gone), slices.Equal(a.Added, b.Added)
	a.Gone, a.Added, b.Gone, b.Added = nil, nil, nil, nil
	return gone && added && fmt.Sprintf("%#v", a) == fmt.Sprintf("%#v", b)
}

// isZero tells whether an edit is the zero one.
func isZero(e api.Edit) bool { return exactly(e, api.Edit{}) }

// anyNumber is a number, often at an edge.
func anyNumber(r *rand.Rand) uint64 {
	if r.IntN(2) == 0 {
		return uint64(r.IntN(5))
	}
	return r.Uint64()>>r.IntN(64) + uint64(r.IntN(3))
}

func anyText(r *rand.Rand, n int) string {
	b := make([]byte, n)
	for i := range b {
		b[i] = []byte{0, 1, 2, 'a', 'b', 127, 128, 255}[r.IntN(8)]
	}
	return string(b)
}

// anyKey is a key that can be.
func anyKey(r *rand.Rand) api.Key {
	n := r.IntN(4)
	if r.IntN(20) == 0 {
		n = 119 + r.IntN(10)
	}
	if r.IntN(40) == 0 {
		n = api.MaxKey - r.IntN(2)
	}
	return key(anyText(r, n), min(anyNumber(r), api.MaxSeq), r.IntN(3))
}

func anyFile(r *rand.Rand) api.File {
	return api.File{Number: anyNumber(r), Size: anyNumber(r), Entries: anyNumber(r), Ranges: anyNumber(r), Smallest: anyKey(r), Largest: anyKey(r)}
}

// anyEdit is an edit that can be, with something in fields that are not said.
func anyEdit(r *rand.Rand) api.Edit {
	flag := func() bool { return r.IntN(2) == 0 }
	e := api.Edit{
		Family: uint32(anyNumber(r)), Make: flag(), Name: anyText(r, 1+r.IntN(64)), How: r.IntN(2),
		HasLog: flag(), HasNext: flag(), HasSeq: flag(), Log: anyNumber(r), Next: anyNumber(r), Seq: anyNumber(r),
	}
	e.Drop = !e.Make && flag()
	for range r.IntN(4) {
		e.Gone = append(e.Gone, gone(r.IntN(7), anyNumber(r)))
	}
	for range r.IntN(4) {
		e.Added = append(e.Added, added(r.IntN(7), anyFile(r)))
	}
	return e
}

// users are the user keys of small versions.
const users = 12

// user is the user key with a place in the order of a comparator.
func user(how, place int) string {
	if how == api.Reverse {
		place = users - place
	}
	return string(rune('a' + place))
}

// anyVersion is a version that can be, of a few user keys, so that two of them have much in common.
func anyVersion(r *rand.Rand, how int) api.Version {
	numbers := r.Perm(40)
	next := func() uint64 {
		n := numbers[0]
		numbers = numbers[1:]
		return uint64(n)
	}
	var v api.Version
	for range r.IntN(5) {
		from := r.IntN(users)
		v.Levels[0] = append(v.Levels[0], file(next(), user(how, from), user(how, from+r.IntN(users-from))))
	}
	slices.SortFunc(v.Levels[0], func(a, b api.File) int { return int(b.Number) - int(a.Number) })
	for level := 1; level < 7; level++ {
		if r.IntN(3) > 0 {
			v.Levels[level] = anyRow(r, how, next)
		}
	}
	return v
}

// anyRow is files that do not lie over one another; some of them end at a key that is not in them, which the next one may begin with.
func anyRow(r *rand.Rand, how int, next func() uint64) []api.File {
	var l []api.File
	for place := r.IntN(4); place < users && len(l) < 5; place += r.IntN(3) {
		to := min(place+r.IntN(3), users)
		f := file(next(), user(how, place), user(how, to))
		if to > place && r.IntN(2) == 0 {
			f.Largest = end(user(how, to))
		} else {
			to++
		}
		l = append(l, f)
		place = to
	}
	return l
}

// fine wants a version that can be.
func fine(t *testing.T, how int, v api.Version) {
	t.Helper()
	if why := edit.Check(how, v); why != api.OK {
		t.Fatalf("Check(%d, %s): %d", how, short(v), why)
	}
}

// copied is a version in lists of its own.
func copied(v api.Version) api.Version {
	for i, l := range v.Levels {
		v.Levels[i] = slices.Clone(l)
	}
	return v
}

// same tells whether two versions are the same, told elsewhere than in the program.
func same(a, b api.Version) bool {
	for i := range a.Levels {
		if fmt.Sprintf("%#v", append([]api.File{}, a.Levels[i]...)) != fmt.Sprintf("%#v", append([]api.File{}, b.Levels[i]...)) {
			return false
		}
	}
	return true
}
