package tables_test

import (
	"bytes"
	"fmt"
	"math"
	"slices"
	"strings"
	"testing"

	"sediment/api"
	"sediment/tables"
	"sediment/vfs"
)

// stored wants a file of just these bytes, all of which stand fast, its name, too.
func stored(t *testing.T, f *vfs.FS, number uint64, want []byte) {
	t.Helper()
	if b, e := f.Read(path(number)); !bytes.Equal(b, want) || e != api.OK {
		t.Errorf("%s: %x, %d, want %x", path(number), b, e, want)
	}
	n, e := f.Unsynced(path(number))
	m, e2 := f.Open(dir)
	if n != 0 || m != 0 || e != api.OK || e2 != api.OK {
		t.Errorf("%s: %d bytes and %d changes are not fast", path(number), n, m)
	}
}

// P12.2
func TestWrite(t *testing.T) {
	for _, how := range hows() {
		f := disk(t, 1<<20)
		x := fresh(t, f, how, 2)
		for i, number := range []uint64{0, 1, 999999, 1000000, math.MaxUint64} {
			r := chance(uint64(i))
			l, tombs := some(r, how)
			tombs = append(tombs, tomb("a", "c", 4), tomb("c", "a", 5))
			o := api.TableOptions{How: how, Block: 1 + i, Restart: 1 + i, Part: 1 + i, Bits: i}
			b := built(t, o, l, tombs)
			want, _ := opened(t, how, b).File(number)
			if got, e := x.Write(number, o, l, tombs); got != want || got.Number != number || e != api.OK {
				t.Errorf("Write(%d): %v, %d, want %v", number, got, e, want)
			}
			stored(t, f, number, b)
		}
		lists(t, x, 0, 1, 999999, 1000000, math.MaxUint64)
		kept(t, x, 0)
	}
}

// P12.2: the same by bytes that are a table.
func TestAdd(t *testing.T) {
	for _, how := range hows() {
		f := disk(t, 1<<20)
		x := fresh(t, f, how, 2)
		for _, number := range []uint64{0, 1, math.MaxUint64} {
			_, b := one(t, how, number)
			want, _ := opened(t, how, b).File(number)
			if got, e := x.Add(number, b); got != want || got.Number != number || e != api.OK {
				t.Errorf("Add(%d): %v, %d, want %v", number, got, e, want)
			}
			stored(t, f, number, b)
			uses(t, x, number)
		}
	}
}

// refuses wants an error of Write, and a disk on which nothing was done.
func refuses(t *testing.T, x *tables.Tables, look func() string, o api.TableOptions, l []api.Entry, tombs []api.Tombstone, want api.Errno) {
	t.Helper()
	was := look()
	if y, e := x.Write(4, o, l, tombs); y != (api.File{}) || e != want {
		t.Errorf("Write(%v, %d entries, %d tombstones): %v, %d, want %d", o, len(l), len(tombs), y, e, want)
	}
	if look() != was {
		t.Errorf("Write(%v, %d entries, %d tombstones) changed the disk", o, len(l), len(tombs))
	}
}

// P12.2: in the order in which the chapter names them; ahead of what the disk says.
func TestWriteRefuses(t *testing.T) {
	for _, how := range hows() {
		f := disk(t, 1<<20)
		x := fresh(t, f, how, 2)
		looks := func() string { return look(f) }
		writes(t, x, how, 4)
		f.Stop(1)
		good, long := []api.Entry{put("a", 1, "v")}, []api.Entry{put("a", 1, strings.Repeat("v", api.MaxValue+1))}
		for _, other := range []int{1 - how, 2, -1, math.MinInt, math.MaxInt} {
			refuses(t, x, looks, api.TableOptions{How: other}, long, nil, api.ErrArg)
			refuses(t, x, looks, small(other), good, nil, api.ErrArg)
			refuses(t, x, looks, small(other), nil, nil, api.ErrArg)
			refuses(t, x, looks, small(other), long, nil, api.ErrArg)
		}
		o := small(how)
		refuses(t, x, looks, api.TableOptions{How: how}, long, nil, api.ErrArg)
		refuses(t, x, looks, o, make([]api.Entry, api.MaxEntries+1), nil, api.ErrLong)
		refuses(t, x, looks, o, long, nil, api.ErrLong)
		refuses(t, x, looks, o, []api.Entry{put("a", 1, "v"), put("a", 1, "v")}, nil, api.ErrArg)
		refuses(t, x, looks, o, []api.Entry{put("a", api.MaxSeq+1, "v")}, nil, api.ErrArg)
		refuses(t, x, looks, o, nil, make([]api.Tombstone, api.MaxTombs+1), api.ErrLong)
		refuses(t, x, looks, o, nil, []api.Tombstone{tomb("a", "b", api.MaxSeq+1)}, api.ErrArg)
		var many []api.Entry
		for i := range 300 {
			many = append(many, put("a", uint64(300-i), strings.Repeat("v", api.MaxValue)))
		}
		refuses(t, x, looks, o, many, nil, api.ErrLong)
		// Empty ones: without anything, and with ranges in which there is nothing.
		refuses(t, x, looks, o, nil, nil, api.ErrNone)
		refuses(t, x, looks, o, []api.Entry{}, []api.Tombstone{tomb("a", "a", 1)}, api.ErrNone)
		// Then what the disk says: the name is there.
		refuses(t, x, looks, o, good, nil, api.ErrThere)
	}
}

// P12.2: a range alone is a table.
func TestWriteRanges(t *testing.T) {
	f := disk(t, 1<<20)
	x := fresh(t, f, api.Bytewise, 2)
	y, e := x.Write(4, small(api.Bytewise), nil, []api.Tombstone{tomb("a", "c", 4)})
	if y.Entries != 0 || y.Ranges != 1 || y.Number != 4 || y.Size == 0 || e != api.OK {
		t.Error(y, e)
	}
}

// P12.2: what is no table is not taken in; ahead of what the disk says.
func TestAddRefuses(t *testing.T) {
	for _, how := range hows() {
		f := disk(t, 1<<20)
		x := fresh(t, f, how, 2)
		writes(t, x, how, 4)
		f.Stop(1)
		was := look(f)
		_, b := one(t, how, 4)
		_, other := one(t, 1-how, 4)
		spoilt := slices.Clone(b)
		spoilt[3] ^= 1
		for _, c := range []struct {
			what string
			b    []byte
			want api.Errno
		}{
			{"nothing", nil, api.ErrCorrupt},
			{"a nought", []byte{0}, api.ErrCorrupt},
			{"one by the other comparator", other, api.ErrCorrupt},
			{"an empty one by the other comparator", built(t, small(1-how), nil, nil), api.ErrCorrupt},
			{"a spoilt one", spoilt, api.ErrCorrupt},
			{"one cut off", b[:len(b)-1], api.ErrCorrupt},
			{"one and more", append(slices.Clone(b), 0), api.ErrCorrupt},
			{"two", append(slices.Clone(b), b...), api.ErrCorrupt},
			{"too many bytes", append(make([]byte, api.MaxBytes), b...), api.ErrCorrupt},
			{"an empty one", built(t, small(how), nil, nil), api.ErrNone},
			{"one whose name is there", b, api.ErrThere},
		} {
			if y, e := x.Add(4, c.b); y != (api.File{}) || e != c.want {
				t.Errorf("Add of %s: %v, %d, want %d", c.what, y, e, c.want)
			}
			same(t, f, was)
		}
	}
}

// left is what is on a disk on which a Write of a table was not done: so many open changes and, unless open is below 0, its file, of these bytes, of which so many are not fast.
func left(changes int, b []byte, open int) string {
	s := fmt.Sprintf("%s %d %v\n", dir, changes, api.OK)
	if open >= 0 {
		s += fmt.Sprintf("%s %x %d %s\n", path(7), b, open, path(7))
	}
	return s
}

// P12.2: each of the calls that can err: which error is told, and what is left, if the file can be Removed and if it can't.
func TestWriteErrs(t *testing.T) {
	l, b := one(t, api.Bytewise, 7)
	half := b[:len(b)/2]
	for _, c := range []struct {
		what          string
		n             int
		removed, kept string
	}{
		{"Create", 1, left(0, nil, -1), left(0, nil, -1)},
		{"Append", 2, left(2, nil, -1), left(1, half, len(half))},
		{"Sync", 3, left(2, nil, -1), left(1, b, len(b))},
		{"SyncDir", 4, left(2, nil, -1), left(1, b, 0)},
	} {
		for _, do := range []func(*tables.Tables) (api.File, api.Errno){
			func(x *tables.Tables) (api.File, api.Errno) { return x.Write(7, small(api.Bytewise), l, nil) },
			func(x *tables.Tables) (api.File, api.Errno) { return x.Add(7, b) },
		} {
			for _, script := range []struct {
				say  func(*vfs.FS)
				e    api.Errno
				want string
			}{
				{func(f *vfs.FS) { f.Fail(c.n, 1) }, api.ErrIO, c.removed},
				{func(f *vfs.FS) { f.Fail(c.n, 9) }, api.ErrIO, c.kept},
				{func(f *vfs.FS) { f.Stop(c.n) }, api.ErrStop, c.kept},
			} {
				f := disk(t, 1<<20)
				x := fresh(t, f, api.Bytewise, 1)
				script.say(f)
				if y, e := do(x); y != (api.File{}) || e != script.e {
					t.Errorf("%s: %v, %d, want %d", c.what, y, e, script.e)
				}
				same(t, f, script.want)
			}
		}
	}
}

// P12.2: just as many calls as the chapter names, one SyncDir and no further one behind a Remove.
func TestWriteCalls(t *testing.T) {
	l, b := one(t, api.Bytewise, 7)
	f := disk(t, 1<<20)
	x := fresh(t, f, api.Bytewise, 1)
	f.Fail(5, 1)
	if _, e := x.Write(7, small(api.Bytewise), l, nil); e != api.OK {
		t.Errorf("a fifth call: %d", e)
	}
	stored(t, f, 7, b)
	refused(t, api.ErrIO, f.SyncDir(dir))
	for _, n := range []int{2, 3, 4} {
		f := disk(t, 1<<20)
		x := fresh(t, f, api.Bytewise, 1)
		f.Fail(n, 1)
		f.Stop(n + 2)
		if _, e := x.Write(7, small(api.Bytewise), l, nil); e != api.ErrIO {
			t.Errorf("Fail(%d, 1): %d", n, e)
		}
		lists(t, x)
		refused(t, api.ErrStop, f.SyncDir(dir))
		// Of changes there were just n, with the one that erred, and the Remove.
		f = disk(t, 1<<20)
		x = fresh(t, f, api.Bytewise, 1)
		f.Fail(n, 1)
		f.Stop(n + 3)
		x.Write(7, small(api.Bytewise), l, nil)
		fine(t, f.SyncDir(dir))
		refused(t, api.ErrStop, f.SyncDir(dir))
	}
}

// P12.2: a disk that is full, a directory that is full or gone.
func TestWriteNoRoom(t *testing.T) {
	l, b := one(t, api.Bytewise, 7)
	f := disk(t, len(b)-1)
	x := fresh(t, f, api.Bytewise, 1)
	y, e := x.Write(7, small(api.Bytewise), l, nil)
	z, e2 := x.Add(7, b)
	refused(t, api.ErrDisk, e, e2)
	if y != (api.File{}) || z != (api.File{}) {
		t.Error(y, z)
	}
	lists(t, x)
	g := disk(t, len(b))
	writes(t, fresh(t, g, api.Bytewise, 1), api.Bytewise, 7)
	stored(t, g, 7, b)

	h := disk(t, 1<<20)
	x = fresh(t, h, api.Bytewise, 1)
	for i := range api.MaxFiles {
		fine(t, h.Create(fmt.Sprint(dir, "/", i)))
	}
	was := look(h)
	y, e = x.Write(7, small(api.Bytewise), l, nil)
	z, e2 = x.Add(7, b)
	refused(t, api.ErrLong, e, e2)
	if y != (api.File{}) || z != (api.File{}) {
		t.Error(y, z)
	}
	same(t, h, was)
	fine(t, h.Remove(dir+"/5"))
	writes(t, x, api.Bytewise, 7)
}

// All calls of a directory that is gone.
func TestDirectoryGone(t *testing.T) {
	f := disk(t, 1<<20)
	x := fresh(t, f, api.Bytewise, 1)
	writes(t, x, api.Bytewise, 1)
	pin := gets(t, x, 1)
	fine(t, f.Remove(path(1)), f.Rmdir(dir))
	l, b := one(t, api.Bytewise, 7)
	y, e := x.Write(7, small(api.Bytewise), l, nil)
	z, e2 := x.Add(7, b)
	n, e3 := x.List()
	if y != (api.File{}) || z != (api.File{}) || len(n) != 0 {
		t.Error(y, z, n)
	}
	refused(t, api.ErrNone, e, e2, e3, x.Remove(1), x.Remove(7))
	lacks(t, x, 7, api.ErrNone)
	fine(t, x.Free(gets(t, x, 1)), x.Free(pin))
	kept(t, x, 1)
}

// Memory: what is handed in is neither changed nor kept.
func TestArguments(t *testing.T) {
	f := disk(t, 1<<20)
	x := fresh(t, f, api.Bytewise, 1)
	l := append(make([]api.Entry, 0, 4), put("a", 1, "v"), put("k", 1, "w"))
	tombs := append(make([]api.Tombstone, 0, 4), tomb("c", "e", 2), tomb("a", "b", 1))
	bytes1 := built(t, small(api.Bytewise), l, tombs)
	if _, e := x.Write(1, small(api.Bytewise), l, tombs); e != api.OK {
		t.Fatal(e)
	}
	spare := append(make([]byte, 0, len(bytes1)+8), bytes1...)
	if _, e := x.Add(2, spare); e != api.OK {
		t.Fatal(e)
	}
	if !slices.Equal(l[:4], []api.Entry{put("a", 1, "v"), put("k", 1, "w"), {}, {}}) || !slices.Equal(tombs[:4], []api.Tombstone{tomb("c", "e", 2), tomb("a", "b", 1), {}, {}}) {
		t.Error(l[:4], tombs[:4])
	}
	if !bytes.Equal(spare, bytes1) || !bytes.Equal(spare[:cap(spare)][len(spare):], make([]byte, cap(spare)-len(spare))) {
		t.Errorf("%x", spare[:cap(spare)])
	}
	clear(l)
	clear(tombs)
	clear(spare[:cap(spare)])
	want := told(api.Bytewise, opened(t, api.Bytewise, bytes1))
	for _, n := range []uint64{1, 2} {
		stored(t, f, n, bytes1)
		y, _, e := x.Get(n)
		if e != api.OK || told(api.Bytewise, y) != want {
			t.Error(n, e)
		}
	}
}
