package vfs_test

import (
	"math"
	"slices"
	"strconv"
	"strings"
	"testing"

	"sediment/api"
	"sediment/vfs"
)

// P2.1
func TestNew(t *testing.T) {
	for _, quota := range []int{-1, -2, math.MinInt, api.MaxDisk + 1, math.MaxInt} {
		if f, e := vfs.New(quota); f != nil || e != api.ErrArg {
			t.Error(quota, f, e)
		}
	}
	for _, quota := range []int{0, 1, api.MaxDisk - 1, api.MaxDisk} {
		f := disk(t, quota)
		if l := f.Dirs(); len(l) != 0 {
			t.Error(quota, l)
		}
		if l := f.Image(); len(l) != 0 {
			t.Error(quota, l)
		}
		used(t, f, 0)
	}
}

// P2.1
func TestMkdir(t *testing.T) {
	f := disk(t, 10)
	for _, n := range wrongNames() {
		refused(t, api.ErrArg, f.Mkdir(n))
	}
	for _, n := range rightNames() {
		fine(t, f.Mkdir(n))
		refused(t, api.ErrThere, f.Mkdir(n))
		names(t, f, n, "", 0)
	}
	want := rightNames()
	slices.Sort(want)
	if l := f.Dirs(); !slices.Equal(l, want) {
		t.Errorf("%q, want %q", l, want)
	}
	for i := len(want); i < api.MaxDirs; i++ {
		fine(t, f.Mkdir("dir"+strconv.Itoa(i)))
	}
	refused(t, api.ErrLong, f.Mkdir("more"))
	refused(t, api.ErrThere, f.Mkdir("!"))
	refused(t, api.ErrArg, f.Mkdir("a/b"))
	f.Crash(nil, nil)
	if n := len(f.Dirs()); n != api.MaxDirs {
		t.Error(n)
	}
	fine(t, f.Rmdir("!"), f.Mkdir("more"))
}

// P2.1
func TestRmdir(t *testing.T) {
	f := disk(t, 10, "d", "e")
	for _, n := range wrongNames() {
		refused(t, api.ErrArg, f.Rmdir(n))
	}
	refused(t, api.ErrNone, f.Rmdir("x"))
	file(t, f, "d/a", "")
	refused(t, api.ErrState, f.Rmdir("d"))
	fine(t, f.Remove("d/a"))
	names(t, f, "d", "", 1)
	fine(t, f.Rmdir("d"))
	refused(t, api.ErrNone, f.Rmdir("d"), f.SyncDir("d"), f.Create("d/a"))
	if l := f.Dirs(); !slices.Equal(l, []string{"e"}) {
		t.Error(l)
	}
	// Neither its open changes come back, nor the name that stood fast ahead of them.
	fine(t, f.Mkdir("d"))
	names(t, f, "d", "", 0)
	f.Crash([]int{9}, []int{9})
	names(t, f, "d", "", 0)
}

// P2.1
func TestRmdirStandsFast(t *testing.T) {
	f := disk(t, 10, "d")
	file(t, f, "d/a", "x")
	fine(t, f.Remove("d/a"), f.Rmdir("d"))
	f.Crash(nil, nil)
	if l := f.Dirs(); len(l) != 0 {
		t.Error(l)
	}
	used(t, f, 0)
}

// P2.1
func TestList(t *testing.T) {
	f := disk(t, 10, "d", "e")
	for _, n := range wrongNames() {
		if l, e := f.List(n); len(l) != 0 || e != api.ErrArg {
			t.Errorf("%q: %v %v", n, l, e)
		}
	}
	if l, e := f.List("x"); len(l) != 0 || e != api.ErrNone {
		t.Error(l, e)
	}
	names(t, f, "d", "", 0)
	for _, n := range []string{"b", "a", "~", "B", "a1", "!"} {
		fine(t, f.Create("d/"+n))
	}
	names(t, f, "d", "! B a a1 b ~", 6)
	names(t, f, "e", "", 0)
}

// Memory: what was answered is the caller's.
func TestListsAreNew(t *testing.T) {
	f := disk(t, 10, "d", "e")
	fine(t, f.Create("d/a"), f.Create("d/b"))
	was := told(f)
	l, _ := f.List("d")
	m := f.Dirs()
	l[0], m[0] = "x", "x"
	_, _ = append(l, "y"), append(m, "y")
	same(t, f, was)
}

// P2.2
func TestPaths(t *testing.T) {
	f := disk(t, 10, "d")
	file(t, f, "d/a", "x")
	was := told(f)
	for _, p := range wrongPaths() {
		_, e1 := f.Read(p)
		_, e2 := f.ReadAt(p, 0, 0)
		_, e3 := f.Size(p)
		_, e4 := f.Unsynced(p)
		refused(t, api.ErrArg, f.Create(p), f.Write(p, 0, nil), f.Append(p, nil), f.Cut(p, 0), f.Rename(p, "d/b"), f.Rename("d/a", p),
			f.Link(p, "d/b"), f.Link("d/a", p), f.Remove(p), e1, e2, e3, e4, f.Sync(p), f.Flip(p, 0))
		if f.Same(p, p) || f.Same("d/a", p) || f.Same(p, "d/a") {
			t.Errorf("%q", p)
		}
	}
	for _, p := range []string{"x/a", "D/a", "d./a"} {
		refused(t, api.ErrNone, f.Create(p), f.Rename("d/a", p), f.Link("d/a", p))
	}
	for _, p := range []string{"x/a", "d/b", "d/A", "d/aa"} {
		_, e1 := f.Read(p)
		_, e2 := f.ReadAt(p, 0, 0)
		_, e3 := f.Size(p)
		_, e4 := f.Unsynced(p)
		refused(t, api.ErrNone, f.Write(p, 0, nil), f.Append(p, nil), f.Cut(p, 0), f.Rename(p, "d/c"), f.Link(p, "d/c"), f.Remove(p), e1, e2, e3, e4, f.Sync(p), f.Flip(p, 0))
		if f.Same(p, p) || f.Same("d/a", p) || f.Same(p, "d/a") {
			t.Errorf("%q", p)
		}
	}
	same(t, f, was)
	for _, n := range rightNames() {
		if n != "a" {
			fine(t, f.Create("d/"+n))
			holds(t, f, "d/"+n, "", 0)
		}
	}
}

// P2.2: which of several errors is told.
func TestFirstError(t *testing.T) {
	f := disk(t, 10, "d")
	file(t, f, "d/a", "x")
	refused(t, api.ErrArg, f.Rename("bad", "x/a"), f.Rename("d/a", "bad"), f.Rename("d/none", "bad"), f.Link("bad", "x/a"), f.Link("d/none", "bad"))
	refused(t, api.ErrNone, f.Rename("x/a", "bad"), f.Rename("d/none", "d/none"), f.Rename("d/none", "d/a"),
		f.Link("x/a", "bad"), f.Link("d/none", "d/a"), f.Link("d/none", "d/none"))
	refused(t, api.ErrThere, f.Link("d/a", "d/a"))
	refused(t, api.ErrNone, f.Write("d/none", -1, nil), f.Cut("d/none", -1), f.Flip("d/none", -1))
}

// crowd fills a directory with names, up to MaxFiles.
func crowd(t *testing.T, f *vfs.FS, dir string) {
	t.Helper()
	l, _ := f.List(dir)
	for i := len(l); i < api.MaxFiles; i++ {
		fine(t, f.Create(dir+"/crowd"+strconv.Itoa(i)))
	}
}

// P2.2
func TestCreate(t *testing.T) {
	f := disk(t, 10, "d", "e")
	fine(t, f.Create("d/a"))
	names(t, f, "d", "a", 1)
	refused(t, api.ErrThere, f.Create("d/a"))
	holds(t, f, "d/a", "", 0)
	fine(t, f.Create("e/a"))
	if f.Same("d/a", "e/a") {
		t.Error("two files are one")
	}
	crowd(t, f, "d")
	refused(t, api.ErrLong, f.Create("d/more"))
	refused(t, api.ErrThere, f.Create("d/a"))
	fine(t, f.Create("e/more"), f.Remove("d/a"), f.Create("d/more"))
}

// P2.2
func TestRename(t *testing.T) {
	f := disk(t, 10, "d", "e")
	file(t, f, "d/a", "x")
	file(t, f, "d/b", "yy")
	fine(t, f.Rename("d/a", "d/c"))
	names(t, f, "d", "b c", 1)
	holds(t, f, "d/c", "x", 0)
	fine(t, f.Rename("d/c", "d/b"))
	names(t, f, "d", "b", 2)
	holds(t, f, "d/b", "x", 0)
	used(t, f, 1)
	fine(t, f.Rename("d/b", "d/b"))
	names(t, f, "d", "b", 2)
	fine(t, f.Rename("d/b", "e/b"))
	names(t, f, "d", "", 3)
	names(t, f, "e", "b", 1)
	holds(t, f, "e/b", "x", 0)
	file(t, f, "d/z", "zzz")
	fine(t, f.SyncDir("e"), f.Rename("d/z", "e/b"))
	names(t, f, "d", "", 1)
	names(t, f, "e", "b", 1)
	holds(t, f, "e/b", "zzz", 0)
	used(t, f, 3)
}

// P2.2: a path of the same file is given by its other one.
func TestRenameOfLinks(t *testing.T) {
	f := disk(t, 10, "d", "e")
	file(t, f, "d/a", "x")
	fine(t, f.Link("d/a", "d/b"), f.Link("d/a", "e/a"), f.SyncDir("d"), f.SyncDir("e"))
	fine(t, f.Rename("d/a", "d/b"))
	names(t, f, "d", "b", 1)
	fine(t, f.Rename("d/b", "e/a"))
	names(t, f, "d", "", 2)
	names(t, f, "e", "a", 1)
	holds(t, f, "e/a", "x", 0)
	used(t, f, 1)
	g := f.Clone()
	g.Crash(nil, nil)
	names(t, g, "d", "a b", 0)
	names(t, g, "e", "a", 0)
	if !g.Same("d/a", "e/a") || !g.Same("d/a", "d/b") {
		t.Error(told(g))
	}
	used(t, g, 1)
}

// P2.2: a crowded directory.
func TestCrowded(t *testing.T) {
	f := disk(t, 10, "d", "e")
	fine(t, f.Create("e/a"), f.Create("d/a"))
	crowd(t, f, "d")
	was := told(f)
	refused(t, api.ErrLong, f.Rename("e/a", "d/more"), f.Link("e/a", "d/more"), f.Link("d/a", "d/more"))
	refused(t, api.ErrThere, f.Link("e/a", "d/a"))
	refused(t, api.ErrNone, f.Rename("e/b", "d/more"), f.Link("e/b", "d/more"))
	same(t, f, was)
	fine(t, f.Rename("d/a", "d/b"), f.Rename("d/b", "d/b"), f.Rename("e/a", "d/b"))
	l, _ := f.List("d")
	if len(l) != api.MaxFiles || !slices.Contains(l, "b") {
		t.Error(len(l))
	}
	fine(t, f.Link("d/b", "e/b"), f.Rename("d/b", "e/b"), f.Link("e/b", "d/b"))
}

// P2.2
func TestLinkAndRemove(t *testing.T) {
	f := disk(t, 10, "d", "e")
	file(t, f, "d/a", "x")
	fine(t, f.Link("d/a", "e/b"))
	names(t, f, "d", "a", 0)
	names(t, f, "e", "b", 1)
	refused(t, api.ErrThere, f.Link("d/a", "e/b"), f.Link("e/b", "d/a"))
	for _, c := range []struct {
		a, b string
		want bool
	}{{"d/a", "e/b", true}, {"e/b", "d/a", true}, {"d/a", "d/a", true}, {"d/a", "e/a", false}, {"e/a", "d/a", false}, {"d/x", "d/x", false}, {"", "", false}} {
		if f.Same(c.a, c.b) != c.want {
			t.Error(c)
		}
	}
	fine(t, f.Remove("d/a"))
	refused(t, api.ErrNone, f.Remove("d/a"))
	names(t, f, "d", "", 1)
	holds(t, f, "e/b", "x", 0)
	fine(t, f.Create("d/a"))
	if f.Same("d/a", "e/b") {
		t.Error("a new file is the old one")
	}
	holds(t, f, "d/a", "", 0)
	names(t, f, "d", "a", 2)
}

// P2.3, P2.4
func TestSyncDirAndOpen(t *testing.T) {
	f := disk(t, 10, "d", "e")
	for _, n := range wrongNames() {
		k, e := f.Open(n)
		refused(t, api.ErrArg, e, f.SyncDir(n))
		if k != 0 {
			t.Errorf("%q: %d", n, k)
		}
	}
	k, e := f.Open("x")
	refused(t, api.ErrNone, e, f.SyncDir("x"))
	if k != 0 {
		t.Error(k)
	}
	fine(t, f.SyncDir("d"), f.Create("d/a"), f.Create("e/a"))
	names(t, f, "d", "a", 1)
	fine(t, f.SyncDir("d"))
	names(t, f, "d", "a", 0)
	names(t, f, "e", "a", 1)
	f.Crash(nil, nil)
	names(t, f, "d", "a", 0)
	names(t, f, "e", "", 0)
}

// P2.4: paths are ordered by the directories first, not as texts.
func TestImage(t *testing.T) {
	f := disk(t, 100, "d!", "d")
	file(t, f, "d!/a", "one")
	file(t, f, "d/b", "two")
	fine(t, f.Link("d!/a", "d/c"), f.Link("d/b", "d!/!"), f.Append("d/b", []byte("++")), f.Create("d/0"))
	want := []string{"d/0  0 d/0", "d/b two++ 2 d/b", "d/c one 0 d/c", "d!/! two++ 2 d/b", "d!/a one 0 d/c"}
	l := f.Image()
	var got []string
	for _, n := range l {
		got = append(got, strings.Join([]string{n.Path, string(n.B), strconv.Itoa(n.Open), n.First}, " "))
	}
	if !slices.Equal(got, want) {
		t.Errorf("%q, want %q", got, want)
	}
	// None of its lists is shared, not with the disk, nor with one another.
	l[1].B[0] = 'X'
	_ = append(l[1].B, 'Y')
	if string(l[3].B) != "two++" {
		t.Errorf("%q", l[3].B)
	}
	holds(t, f, "d/b", "two++", 2)
	fine(t, f.Write("d/b", 2, []byte("O")))
	if string(l[3].B) != "two++" {
		t.Errorf("%q", l[3].B)
	}
}
