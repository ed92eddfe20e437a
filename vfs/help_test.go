package vfs_test

import (
	"strconv"
	"strings"
	"testing"

	"sediment/api"
	"sediment/vfs"
)

// disk is a disk of so many bytes, with these directories.
func disk(t *testing.T, quota int, dirs ...string) *vfs.FS {
	t.Helper()
	f, e := vfs.New(quota)
	if f == nil || e != api.OK {
		t.Fatal(f, e)
	}
	for _, d := range dirs {
		fine(t, f.Mkdir(d))
	}
	return f
}

// fine wants calls that answered OK.
func fine(t *testing.T, all ...api.Errno) {
	t.Helper()
	refused(t, api.OK, all...)
}

// refused wants calls that answered one error.
func refused(t *testing.T, want api.Errno, all ...api.Errno) {
	t.Helper()
	for i, e := range all {
		if e != want {
			t.Errorf("call %d: %v, want %v", i, e, want)
		}
	}
}

// file makes a file with bytes that stand fast, and its name, too.
func file(t *testing.T, f *vfs.FS, path, text string) {
	t.Helper()
	dir, _, _ := strings.Cut(path, "/")
	fine(t, f.Create(path), f.Append(path, []byte(text)), f.Sync(path), f.SyncDir(dir))
}

// holds wants a file of these bytes, of which so many are not fast.
func holds(t *testing.T, f *vfs.FS, path, want string, open int) {
	t.Helper()
	b, e := f.Read(path)
	if string(b) != want || e != api.OK {
		t.Errorf("%s: %q %v, want %q", path, b, e, want)
	}
	if n, e := f.Size(path); n != len(want) || e != api.OK {
		t.Errorf("%s: size %d %v, want %d", path, n, e, len(want))
	}
	if n, e := f.Unsynced(path); n != open || e != api.OK {
		t.Errorf("%s: unsynced %d %v, want %d", path, n, e, open)
	}
}

// gone wants a path that is not there.
func gone(t *testing.T, f *vfs.FS, path string) {
	t.Helper()
	if b, e := f.Read(path); len(b) != 0 || e != api.ErrNone {
		t.Errorf("%s: %q %v, want none", path, b, e)
	}
}

// names wants a directory with these names, and so many open changes.
func names(t *testing.T, f *vfs.FS, dir, want string, open int) {
	t.Helper()
	l, e := f.List(dir)
	if strings.Join(l, " ") != want || e != api.OK {
		t.Errorf("%s: %v %v, want %s", dir, l, e, want)
	}
	if n, e := f.Open(dir); n != open || e != api.OK {
		t.Errorf("%s: open %d %v, want %d", dir, n, e, open)
	}
}

// used wants a disk of so many bytes.
func used(t *testing.T, f *vfs.FS, want int) {
	t.Helper()
	if n := f.Used(); n != want {
		t.Errorf("used %d, want %d", n, want)
	}
}

// told is all that a disk shows, as a text.
func told(f *vfs.FS) string {
	var s []string
	for _, d := range f.Dirs() {
		l, e := f.List(d)
		n, e2 := f.Open(d)
		s = append(s, d+": "+strings.Join(l, " ")+" open "+strconv.Itoa(n)+" "+strconv.Itoa(int(e+e2)))
	}
	for _, n := range f.Image() {
		s = append(s, n.Path+" = "+strconv.Quote(string(n.B))+" open "+strconv.Itoa(n.Open)+" first "+n.First)
	}
	return strings.Join(append(s, "used "+strconv.Itoa(f.Used())), "\n")
}

// same wants a disk that shows what it showed.
func same(t *testing.T, f *vfs.FS, want string) {
	t.Helper()
	if got := told(f); got != want {
		t.Errorf("is\n%s\nwas\n%s", got, want)
	}
}

// wrongNames are texts that are no names.
func wrongNames() []string {
	return []string{"", "a/b", "/", "a b", " ", "a\n", "a\x00", "a\x1f", "\x7f", "a\x7fb", "\x80", "é", "\xff", strings.Repeat("n", 33), strings.Repeat("n", 1<<16)}
}

// rightNames are some at the edges of what is a name.
func rightNames() []string {
	return []string{"!", "~", "0", ".", "..", "\\", "a", "a:b", strings.Repeat("n", 32), strings.Repeat("~", 32)}
}

// wrongPaths are texts that are no paths, whatever directories there are.
func wrongPaths() []string {
	l := []string{"d", "d/", "/a", "/d/a", "d//a", "d/a/", "d/a/b", "//"}
	for _, n := range wrongNames() {
		if n != "a/b" { // a path, of a directory that may be there
			l = append(l, n)
		}
		l = append(l, n+"/a", "d/"+n)
	}
	return l
}
