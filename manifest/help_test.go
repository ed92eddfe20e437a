package manifest_test

import (
	"encoding/binary"
	"fmt"
	"math/rand/v2"
	"slices"
	"strings"
	"testing"

	"sediment/api"
	"sediment/codec"
	"sediment/edit"
	"sediment/manifest"
	"sediment/vfs"
	"sediment/wal"
)

// dir is the directory of all manifests.
const dir = "d"

// now and next are the paths of the file that says which one counts, and of what becomes that.
const (
	now  = dir + "/CURRENT"
	next = dir + "/CURRENT.new"
)

// chance is random numbers that are the same in every run.
func chance(seed uint64) *rand.Rand { return rand.New(rand.NewPCG(14, seed)) }

// name is the name of a manifest's file, written elsewhere than in the program; path its path.
func name(number uint64) string { return fmt.Sprintf("MANIFEST-%06d", number) }
func path(number uint64) string { return dir + "/" + name(number) }

// text is n bytes.
func text(n int) string { return strings.Repeat("t", n) }

func key(user string, seq uint64) api.Key { return api.Key{User: user, Seq: seq, Kind: api.Put} }

// file is a table from one user key to another one.
func file(number uint64, least, greatest string) api.File {
	return api.File{Number: number, Size: 10 * number, Smallest: key(least, 9), Largest: key(greatest, 1), Entries: 2, Ranges: 1}
}

func added(level int, f api.File) api.Added { return api.Added{Level: level, File: f} }

func gone(level int, number uint64) api.Gone { return api.Gone{Level: level, Number: number} }

// makes, drops, logs, adds, takes, nexts, seqs are edits that say one thing each.
func makes(family uint32, name string, how int) api.Edit {
	return api.Edit{Family: family, Make: true, Name: name, How: how}
}
func drops(family uint32) api.Edit { return api.Edit{Family: family, Drop: true} }
func logs(family uint32, log uint64) api.Edit {
	return api.Edit{Family: family, HasLog: true, Log: log}
}
func adds(family uint32, l ...api.Added) api.Edit { return api.Edit{Family: family, Added: l} }
func takes(family uint32, l ...api.Gone) api.Edit { return api.Edit{Family: family, Gone: l} }
func nexts(n uint64) api.Edit                     { return api.Edit{HasNext: true, Next: n} }
func seqs(n uint64) api.Edit                      { return api.Edit{HasSeq: true, Seq: n} }
func both(next, seq uint64) api.Edit {
	return api.Edit{HasNext: true, Next: next, HasSeq: true, Seq: seq}
}
func list(l ...api.Edit) []api.Edit                   { return l }
func at(level int, files ...api.File) (v api.Version) { v.Levels[level] = files; return v }

// row is n tables that lie one behind the other, with the numbers from first on, with keys of so many bytes at least.
func row(n int, first uint64, size int) []api.Added {
	l := make([]api.Added, n)
	for i := range l {
		user := fmt.Sprintf("%06d", i) + text(max(size-6, 0))
		l[i] = added(1, file(first+uint64(i), user, user))
	}
	return l
}

// disk is a disk of so many bytes, with the directory.
func disk(t *testing.T, quota int) *vfs.FS {
	t.Helper()
	f, e := vfs.New(quota)
	if e != api.OK || f.Mkdir(dir) != api.OK {
		t.Fatal(e)
	}
	return f
}

// created is a first manifest on a disk.
func created(t *testing.T, f *vfs.FS) *manifest.Manifest {
	t.Helper()
	m, e := manifest.Create(f, dir)
	if m == nil || e != api.OK {
		t.Fatalf("Create: nil %t, %d", m == nil, e)
	}
	return m
}

// opened is the manifest of a disk.
func opened(t *testing.T, f *vfs.FS) *manifest.Manifest {
	t.Helper()
	m, e := manifest.Open(f, dir)
	if m == nil || e != api.OK {
		t.Fatalf("Open: nil %t, %d", m == nil, e)
	}
	return m
}

// fine wants calls that answered OK.
func fine(t *testing.T, all ...api.Errno) {
	t.Helper()
	refused(t, api.OK, all...)
}

// refused wants calls that answered one error.
func refused(t *testing.T, want api.Errno, all ...api.Errno) {
	t.Helper()
	for i, e := range all {
		if e != want {
			t.Fatalf("call %d: %d, want %d", i, e, want)
		}
	}
}

// recordOf is a record's bytes, written elsewhere than in the program.
func recordOf(l ...api.Edit) []byte {
	b := binary.AppendUvarint(nil, uint64(len(l)))
	for _, e := range l {
		x, why := edit.Encode(e)
		if why != api.OK {
			panic(why)
		}
		b = append(binary.AppendUvarint(b, uint64(len(x))), x...)
	}
	return b
}

// logOf is a log's bytes.
func logOf(log uint32, recycled bool, records ...[]byte) []byte {
	w := wal.New(log, recycled)
	var out []byte
	for _, x := range records {
		b, e := w.Add(x)
		if e != api.OK {
			panic(e)
		}
		out = append(out, b...)
	}
	return out
}

// puts makes a file of the directory anew, which stands fast.
func puts(t *testing.T, f *vfs.FS, path string, b []byte) {
	t.Helper()
	f.Remove(path)
	fine(t, f.Create(path), f.Append(path, b), f.Sync(path), f.SyncDir(dir))
}

// forged is a disk with a manifest that no call made: its file's bytes.
func forged(t *testing.T, number uint64, b []byte) *vfs.FS {
	t.Helper()
	f := disk(t, api.MaxDisk)
	puts(t, f, path(number), b)
	puts(t, f, now, []byte(name(number)+"\n"))
	return f
}

// read is a file's bytes.
func read(t *testing.T, f *vfs.FS, path string) []byte {
	t.Helper()
	b, e := f.Read(path)
	if e != api.OK {
		t.Fatalf("Read(%s): %d", path, e)
	}
	return b
}

// lists wants the names in the directory.
func lists(t *testing.T, f *vfs.FS, want ...string) {
	t.Helper()
	slices.Sort(want)
	if l, e := f.List(dir); !slices.Equal(l, want) || e != api.OK {
		t.Errorf("List: %v, %d, want %v", l, e, want)
	}
}

// look is all that a disk shows.
func look(f *vfs.FS) string {
	var s strings.Builder
	for _, d := range f.Dirs() {
		n, e := f.Open(d)
		fmt.Fprintln(&s, d, n, e)
	}
	for _, x := range f.Image() {
		fmt.Fprintf(&s, "%s %x %d %s\n", x.Path, codec.Sum(x.B), len(x.B), fmt.Sprint(x.Open, x.First))
	}
	return s.String()
}

// manifester is what manifests and their model are both.
type manifester interface {
	Log(l []api.Edit) api.Errno
	Roll() api.Errno
	NewNumber() uint64
	Families() []api.State
	State(family uint32) (api.State, api.Errno)
	Live() []uint64
	Next() uint64
	Seq() uint64
	File() uint64
	Size() int
	Broken() bool
}

// said is what a manifest says that stays when it is opened again.
func said(m manifester) string { return fmt.Sprint(m.Families(), m.Live(), m.Seq()) }

// tells is all that a manifest tells.
func tells(m manifester) string {
	s := fmt.Sprintln(said(m), m.Next(), m.File(), m.Size(), m.Broken())
	for family := range uint32(7) {
		x, e := m.State(family)
		s += fmt.Sprintln(x, e)
	}
	return s
}

// still wants that what is done changes neither what a manifest tells nor the disk.
func still(t *testing.T, f *vfs.FS, m manifester, do func()) {
	t.Helper()
	ahead, was := tells(m), look(f)
	do()
	if s := tells(m); s != ahead {
		t.Errorf("it tells\n%s\nwant\n%s", short(s), short(ahead))
	}
	same(t, f, was)
}

// same wants a disk that shows what it showed ahead.
func same(t *testing.T, f *vfs.FS, was string) {
	t.Helper()
	if s := look(f); s != was {
		t.Errorf("the disk is\n%s\nwant\n%s", s, was)
	}
}

// short is something that can be told in some lines.
func short(s string) string {
	if len(s) > 2000 {
		return s[:2000] + "..."
	}
	return s
}

// numbers is a script of a crash.
func numbers(r *rand.Rand) []int {
	l := make([]int, r.IntN(4))
	for i := range l {
		l[i] = r.IntN(1000) - 1
	}
	return l
}

// anyEdit is an edit that can mostly be made on what a manifest says.
func anyEdit(r *rand.Rand, m manifester) api.Edit {
	e := api.Edit{Family: uint32(r.IntN(5))}
	x, why := m.State(e.Family)
	if r.IntN(4) == 0 {
		e.HasSeq, e.Seq = true, m.Seq()+uint64(r.IntN(5))
		if r.IntN(12) == 0 {
			e.Seq -= 3
		}
	}
	if r.IntN(6) == 0 {
		e.HasNext, e.Next = true, m.Next()+uint64(r.IntN(5))
		if r.IntN(12) == 0 {
			e.Next -= 3
		}
	}
	if why != api.OK || r.IntN(30) == 0 {
		e.Make, e.Name, e.How = r.IntN(8) > 0, fmt.Sprint("f", r.IntN(9)), r.IntN(2)
	} else if r.IntN(12) == 0 {
		e.Drop = true
	}
	if e.Make || why == api.OK {
		e.HasLog, e.Log = r.IntN(3) == 0, r.Uint64()>>r.IntN(64)
		anyTables(r, &e, x)
	}
	return e
}

// anyTables lets an edit say of tables what can mostly be made on a family.
func anyTables(r *rand.Rand, e *api.Edit, x api.State) {
	for level, files := range x.Version.Levels {
		for _, x := range files {
			if r.IntN(4) == 0 {
				e.Gone = append(e.Gone, gone(level, x.Number))
			}
		}
	}
	for range r.IntN(3) {
		least := string(rune('a' + r.IntN(26)))
		greatest := least + text(r.IntN(20))
		if e.Make && e.How == api.Reverse || x.How == api.Reverse {
			least, greatest = greatest, least
		}
		e.Added = append(e.Added, added(r.IntN(api.Levels), file(r.Uint64N(1000), least, greatest)))
	}
	if r.IntN(40) == 0 {
		e.Gone = append(e.Gone, gone(r.IntN(9), r.Uint64N(1000)))
	}
}

// anyEdits is edits that can mostly be made, though each is one for what is said ahead of all.
func anyEdits(r *rand.Rand, m manifester) []api.Edit {
	var l []api.Edit
	for range 1 + r.IntN(3) {
		l = append(l, anyEdit(r, m))
	}
	return l
}
