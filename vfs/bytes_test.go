package vfs_test

import (
	"math"
	"testing"

	"sediment/api"
)

// P2.3
func TestWrite(t *testing.T) {
	f := disk(t, 10, "d")
	file(t, f, "d/a", "xyz")
	for _, at := range []int{-1, 4, math.MinInt, math.MaxInt} {
		refused(t, api.ErrArg, f.Write("d/a", at, nil), f.Write("d/a", at, []byte("q")), f.Write("d/a", at, make([]byte, 99)))
	}
	holds(t, f, "d/a", "xyz", 0)
	fine(t, f.Write("d/a", 1, []byte("UV")))
	holds(t, f, "d/a", "xUV", 2)
	fine(t, f.Write("d/a", 0, []byte("0")))
	holds(t, f, "d/a", "0UV", 3)
	fine(t, f.Write("d/a", 2, []byte("abc")))
	holds(t, f, "d/a", "0Uabc", 6)
	fine(t, f.Write("d/a", 5, []byte("!")))
	holds(t, f, "d/a", "0Uabc!", 7)
	fine(t, f.Write("d/a", 6, nil), f.Write("d/a", 0, []byte{}), f.Append("d/a", nil))
	holds(t, f, "d/a", "0Uabc!", 7)
	fine(t, f.Append("d/a", []byte("++")))
	holds(t, f, "d/a", "0Uabc!++", 9)
	used(t, f, 8)
	fine(t, f.Sync("d/a"), f.Sync("d/a"))
	holds(t, f, "d/a", "0Uabc!++", 0)
	f.Crash(nil, nil)
	holds(t, f, "d/a", "0Uabc!++", 0)
}

// P2.3: a full disk.
func TestQuota(t *testing.T) {
	f := disk(t, 10, "d")
	file(t, f, "d/a", "12345")
	fine(t, f.Create("d/b"))
	refused(t, api.ErrDisk, f.Append("d/b", []byte("abcdef")), f.Write("d/a", 2, make([]byte, 9)))
	refused(t, api.ErrArg, f.Write("d/b", 1, make([]byte, 11)))
	holds(t, f, "d/b", "", 0)
	fine(t, f.Append("d/b", []byte("abcde")))
	used(t, f, 10)
	refused(t, api.ErrDisk, f.Append("d/a", []byte("!")), f.Write("d/b", 5, []byte("!")), f.Write("d/b", 4, []byte("!!")))
	fine(t, f.Write("d/b", 0, []byte("ABCDE")), f.Write("d/b", 4, []byte("!")), f.Append("d/b", nil), f.Create("d/c"))
	holds(t, f, "d/b", "ABCD!", 11)
	// A link has no bytes of its own; what has no path any more has none.
	fine(t, f.Link("d/a", "d/l"))
	used(t, f, 10)
	fine(t, f.Remove("d/a"))
	used(t, f, 10)
	fine(t, f.Remove("d/l"))
	used(t, f, 5)
	fine(t, f.Append("d/c", []byte("vwxyz")))
	refused(t, api.ErrDisk, f.Append("d/c", []byte("!")))
	fine(t, f.Cut("d/c", 3), f.Append("d/c", []byte("!!")))
	refused(t, api.ErrDisk, f.Append("d/c", []byte("!")))
}

// P2.3: a crash that brings back what was removed may leave more than there is room for.
func TestOverFull(t *testing.T) {
	f := disk(t, 6, "d", "e")
	file(t, f, "d/a", "1234")
	fine(t, f.Remove("d/a"), f.Create("e/b"), f.Append("e/b", []byte("abcd")), f.Sync("e/b"), f.SyncDir("e"))
	f.Crash(nil, nil)
	used(t, f, 8)
	refused(t, api.ErrDisk, f.Append("d/a", []byte("5")), f.Write("e/b", 3, []byte("56")))
	fine(t, f.Write("e/b", 0, []byte("ABCD")), f.Write("d/a", 3, []byte("!")), f.Append("d/a", nil), f.Cut("d/a", 1))
	used(t, f, 5)
	fine(t, f.Append("d/a", []byte("!")))
	refused(t, api.ErrDisk, f.Append("d/a", []byte("!")))
}

// P2.3: a disk without room, and one of the greatest.
func TestQuotaEdges(t *testing.T) {
	f := disk(t, 0, "d")
	fine(t, f.Create("d/a"), f.Append("d/a", nil), f.Write("d/a", 0, nil))
	refused(t, api.ErrDisk, f.Append("d/a", []byte("x")))
	g := disk(t, api.MaxDisk, "d")
	fine(t, g.Create("d/a"), g.Append("d/a", make([]byte, 1<<20)))
	used(t, g, 1<<20)
}

// P2.3
func TestCut(t *testing.T) {
	f := disk(t, 10, "d")
	file(t, f, "d/a", "12345")
	refused(t, api.ErrArg, f.Cut("d/a", -1), f.Cut("d/a", 6), f.Cut("d/a", math.MaxInt), f.Cut("d/a", math.MinInt))
	fine(t, f.Write("d/a", 1, []byte("ABCDEFG")))
	holds(t, f, "d/a", "1ABCDEFG", 7)
	fine(t, f.Cut("d/a", 4))
	holds(t, f, "d/a", "1ABC", 0)
	used(t, f, 4)
	f.Crash(nil, nil)
	holds(t, f, "d/a", "1ABC", 0)
	fine(t, f.Write("d/a", 3, []byte("?")), f.Cut("d/a", 4))
	holds(t, f, "d/a", "1AB?", 0)
	f.Crash(nil, nil)
	holds(t, f, "d/a", "1AB?", 0)
	fine(t, f.Cut("d/a", 0))
	holds(t, f, "d/a", "", 0)
	fine(t, f.Cut("d/a", 0), f.Append("d/a", []byte("new")))
	holds(t, f, "d/a", "new", 3)
}

// P2.4
func TestReadAt(t *testing.T) {
	f := disk(t, 10, "d")
	file(t, f, "d/a", "12345")
	fine(t, f.Append("d/a", []byte("6")))
	for _, c := range []struct {
		at, n int
		want  string
		e     api.Errno
	}{
		{0, 6, "123456", api.OK}, {0, 7, "123456", api.OK}, {0, math.MaxInt, "123456", api.OK}, {0, 0, "", api.OK}, {0, 1, "1", api.OK},
		{2, 3, "345", api.OK}, {5, 9, "6", api.OK}, {6, 0, "", api.OK}, {6, math.MaxInt, "", api.OK}, {3, math.MaxInt, "456", api.OK},
		{7, 0, "", api.ErrArg}, {-1, 1, "", api.ErrArg}, {0, -1, "", api.ErrArg}, {math.MaxInt, 1, "", api.ErrArg}, {math.MinInt, 1, "", api.ErrArg}, {1, math.MinInt, "", api.ErrArg},
	} {
		if b, e := f.ReadAt("d/a", c.at, c.n); string(b) != c.want || e != c.e {
			t.Errorf("%v: %q %v", c, b, e)
		}
	}
}

// P2.4: beside an error all else is nothing.
func TestReadErrors(t *testing.T) {
	f := disk(t, 10, "d")
	for path, want := range map[string]api.Errno{"d": api.ErrArg, "d/a": api.ErrNone, "x/a": api.ErrNone} {
		b, e1 := f.Read(path)
		c, e2 := f.ReadAt(path, -1, -1)
		n, e3 := f.Size(path)
		m, e4 := f.Unsynced(path)
		refused(t, want, e1, e2, e3, e4)
		if len(b)+len(c)+n+m != 0 {
			t.Error(path, b, c, n, m)
		}
	}
}

// Memory: what is handed in is not kept, what is answered is new.
func TestBytesAreNew(t *testing.T) {
	f := disk(t, 100, "d")
	fine(t, f.Create("d/a"))
	in := append(make([]byte, 0, 16), "abc"...)
	fine(t, f.Append("d/a", in), f.Write("d/a", 1, in))
	in[0], in[1], in[2] = '?', '?', '?'
	if string(in[:4]) != "???\x00" {
		t.Errorf("%q", in[:4])
	}
	holds(t, f, "d/a", "aabc", 6)
	b, _ := f.Read("d/a")
	c, _ := f.ReadAt("d/a", 1, 2)
	b[0], c[0] = '!', '!'
	_, _ = append(b, "!!!!"...), append(c, "!!!!"...)
	holds(t, f, "d/a", "aabc", 6)
	fine(t, f.Write("d/a", 0, []byte("zzzz")), f.Append("d/a", []byte("z")))
	if string(b) != "!abc" || string(c) != "!b" {
		t.Errorf("%q %q", b, c)
	}
}

// P2.11
func TestLinksShareBytes(t *testing.T) {
	f := disk(t, 100, "d", "e")
	file(t, f, "d/a", "abc")
	fine(t, f.Link("d/a", "e/b"), f.Link("e/b", "d/c"), f.Write("e/b", 1, []byte("X")), f.Append("d/c", []byte("Y")))
	for _, p := range []string{"d/a", "e/b", "d/c"} {
		holds(t, f, p, "aXcY", 2)
	}
	used(t, f, 4)
	fine(t, f.Sync("d/c"))
	holds(t, f, "d/a", "aXcY", 0)
	fine(t, f.Flip("e/b", 1), f.Remove("d/a"), f.Remove("d/c"))
	holds(t, f, "e/b", "cXcY", 0)
	fine(t, f.Cut("e/b", 1), f.Rename("e/b", "d/z"))
	holds(t, f, "d/z", "c", 0)
	fine(t, f.Remove("d/z"))
	used(t, f, 0)
	gone(t, f, "d/z")
	// It lives on in what a crash can leave.
	g := f.Clone()
	g.Crash(nil, nil)
	names(t, g, "d", "a", 0)
	holds(t, g, "d/a", "c", 0)
	h := f.Clone()
	h.Crash(nil, []int{3, 1})
	names(t, h, "d", "", 0)
	holds(t, h, "e/b", "c", 0)
	f.Crash(nil, []int{5, 2})
	if l := f.Image(); len(l) != 0 {
		t.Error(l)
	}
}
