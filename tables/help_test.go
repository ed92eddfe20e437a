package tables_test

import (
	"fmt"
	"math"
	"math/rand/v2"
	"slices"
	"strings"
	"testing"

	"sediment/api"
	"sediment/codec"
	"sediment/sstable"
	"sediment/tables"
	"sediment/vfs"
)

// dir is the directory of all tables.
const dir = "d"

// chance is random numbers that are the same in every run.
func chance(seed uint64) *rand.Rand { return rand.New(rand.NewPCG(12, seed)) }

func put(user string, seq uint64, value string) api.Entry {
	return api.Entry{Key: api.Key{User: user, Seq: seq, Kind: api.Put}, Value: value}
}

func tomb(begin, end string, seq uint64) api.Tombstone {
	return api.Tombstone{Begin: begin, End: end, Seq: seq}
}

// small is options of small blocks, by a comparator.
func small(how int) api.TableOptions {
	return api.TableOptions{How: how, Block: 30, Restart: 2, Part: 2, Bits: 10}
}

// hows are both comparators.
func hows() []int { return []int{api.Bytewise, api.Reverse} }

// disk is a disk of so many bytes, with the directory.
func disk(t *testing.T, quota int) *vfs.FS {
	t.Helper()
	f, e := vfs.New(quota)
	if e != api.OK || f.Mkdir(dir) != api.OK {
		t.Fatal(e)
	}
	return f
}

// fresh is the tables of the directory, none of which is open.
func fresh(t *testing.T, f *vfs.FS, how, room int) *tables.Tables {
	t.Helper()
	x, e := tables.New(f, dir, how, room)
	if x == nil || e != api.OK {
		t.Fatalf("New(%d, %d): %v, %d", how, room, x, e)
	}
	return x
}

// path is a file of the directory, by a name that is written out elsewhere than in the program.
func path(number uint64) string { return fmt.Sprintf("%s/%06d.sst", dir, number) }

// fine wants calls that answered OK.
func fine(t *testing.T, all ...api.Errno) {
	t.Helper()
	refused(t, api.OK, all...)
}

// refused wants calls that answered one error.
func refused(t *testing.T, want api.Errno, all ...api.Errno) {
	t.Helper()
	for i, e := range all {
		if e != want {
			t.Errorf("call %d: %d, want %d", i, e, want)
		}
	}
}

// built is the bytes of a table.
func built(t *testing.T, o api.TableOptions, l []api.Entry, tombs []api.Tombstone) []byte {
	t.Helper()
	b, e := sstable.Build(o, l, tombs)
	if e != api.OK {
		t.Fatal(e)
	}
	return b
}

// opened is the table of bytes.
func opened(t *testing.T, how int, b []byte) *sstable.Table {
	t.Helper()
	x, e := sstable.Open(how, b)
	if e != api.OK {
		t.Fatal(e)
	}
	return x
}

// one is the entries of a table that is told apart from others by its number, and the table's bytes.
func one(t *testing.T, how int, number uint64) ([]api.Entry, []byte) {
	t.Helper()
	l := []api.Entry{put("k", 9, fmt.Sprint("table ", number)), put("k", 3, "older")}
	return l, built(t, small(how), l, nil)
}

// writes writes tables that are told apart by their numbers.
func writes(t *testing.T, x *tables.Tables, how int, numbers ...uint64) {
	t.Helper()
	for _, n := range numbers {
		l, b := one(t, how, n)
		got, e := x.Write(n, small(how), l, nil)
		if want, _ := opened(t, how, b).File(n); got != want || e != api.OK {
			t.Fatalf("Write(%d): %v, %d, want %v", n, got, e, want)
		}
	}
}

// gets is the pin of a table that must be the one of that number.
func gets(t *testing.T, x *tables.Tables, number uint64) int {
	t.Helper()
	y, pin, e := x.Get(number)
	if y == nil || pin < 1 || e != api.OK {
		t.Fatalf("Get(%d): nil %t, %d, %d", number, y == nil, pin, e)
	}
	if z, is := y.Get("k", 9); !is || z.Value != fmt.Sprint("table ", number) {
		t.Fatalf("Get(%d) has %v, %t", number, z, is)
	}
	return pin
}

// lacks wants an error of Get.
func lacks(t *testing.T, x *tables.Tables, number uint64, want api.Errno) {
	t.Helper()
	if y, pin, e := x.Get(number); y != nil || pin != 0 || e != want {
		t.Errorf("Get(%d): nil %t, %d, %d, want %d", number, y == nil, pin, e, want)
	}
}

// uses opens tables one behind the other, and lets each go.
func uses(t *testing.T, x *tables.Tables, numbers ...uint64) {
	t.Helper()
	for _, n := range numbers {
		fine(t, x.Free(gets(t, x, n)))
	}
}

// kept wants so many that are open.
func kept(t *testing.T, x *tables.Tables, want int) {
	t.Helper()
	if n := x.Kept(); n != want {
		t.Errorf("Kept: %d, want %d", n, want)
	}
}

// lists wants the numbers of all files.
func lists(t *testing.T, x *tables.Tables, want ...uint64) {
	t.Helper()
	if l, e := x.List(); !slices.Equal(l, want) || e != api.OK {
		t.Errorf("List: %v, %d, want %v", l, e, want)
	}
}

// blank hides a file from whoever would read it again: what is open is told all the same.
func blank(t *testing.T, f *vfs.FS, numbers ...uint64) {
	t.Helper()
	for _, n := range numbers {
		fine(t, f.Cut(path(n), 0))
	}
}

// look is all that a disk shows.
func look(f *vfs.FS) string {
	var s strings.Builder
	for _, d := range f.Dirs() {
		n, e := f.Open(d)
		fmt.Fprintln(&s, d, n, e)
	}
	for _, x := range f.Image() {
		fmt.Fprintf(&s, "%s %x %d %s\n", x.Path, x.B, x.Open, x.First)
	}
	return s.String()
}

// same wants a disk that shows what it showed ahead.
func same(t *testing.T, f *vfs.FS, was string) {
	t.Helper()
	if now := look(f); now != was {
		t.Errorf("the disk is\n%s\nwant\n%s", now, was)
	}
}

// told is all that a table tells.
func told(how int, x *sstable.Table) string {
	if x == nil {
		return "none"
	}
	from := api.Key{Seq: math.MaxUint64, Kind: math.MaxInt}
	if how == api.Reverse {
		from.User = strings.Repeat("\xff", api.MaxKey+1)
	}
	return fmt.Sprint(slices.Collect(x.All(from)), x.Tombstones(), x.Props(), x.Units())
}

// some is entries and tombstones of a table that may be any one, now and then an empty one.
func some(r *rand.Rand, how int) ([]api.Entry, []api.Tombstone) {
	var l []api.Entry
	for range r.IntN(8) {
		l = append(l, put(string(rune('a'+r.IntN(6))), uint64(r.IntN(20)), fmt.Sprint(r.IntN(1000))))
	}
	slices.SortFunc(l, func(a, b api.Entry) int { return codec.Order(how, a.Key, b.Key) })
	l = slices.CompactFunc(l, func(a, b api.Entry) bool { return a.Key == b.Key })
	var tombs []api.Tombstone
	for range r.IntN(3) {
		tombs = append(tombs, tomb(string(rune('a'+r.IntN(6))), string(rune('a'+r.IntN(6))), uint64(r.IntN(20))))
	}
	return l, tombs
}

// numbers is a script of a crash.
func numbers(r *rand.Rand) []int {
	l := make([]int, r.IntN(4))
	for i := range l {
		l[i] = r.IntN(1000) - 1
	}
	return l
}
