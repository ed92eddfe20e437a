package vfs_test

import (
	"math"
	"testing"

	"sediment/api"
	"sediment/vfs"
)

// calls are all calls that are changes, each one that would answer OK on the disk that stage makes.
func calls() map[string]func(*vfs.FS) api.Errno {
	return map[string]func(*vfs.FS) api.Errno{
		"Mkdir":       func(f *vfs.FS) api.Errno { return f.Mkdir("new") },
		"Rmdir":       func(f *vfs.FS) api.Errno { return f.Rmdir("empty") },
		"Create":      func(f *vfs.FS) api.Errno { return f.Create("d/new") },
		"Write":       func(f *vfs.FS) api.Errno { return f.Write("d/a", 1, []byte("VWXYZ")) },
		"Write none":  func(f *vfs.FS) api.Errno { return f.Write("d/a", 1, nil) },
		"Append":      func(f *vfs.FS) api.Errno { return f.Append("d/a", []byte("VWXYZ")) },
		"Append one":  func(f *vfs.FS) api.Errno { return f.Append("d/a", []byte("V")) },
		"Cut":         func(f *vfs.FS) api.Errno { return f.Cut("d/a", 1) },
		"Rename":      func(f *vfs.FS) api.Errno { return f.Rename("d/a", "d/z") },
		"Rename over": func(f *vfs.FS) api.Errno { return f.Rename("d/a", "e/b") },
		"Rename same": func(f *vfs.FS) api.Errno { return f.Rename("d/a", "d/a") },
		"Link":        func(f *vfs.FS) api.Errno { return f.Link("d/a", "d/z") },
		"Remove":      func(f *vfs.FS) api.Errno { return f.Remove("d/a") },
		"Sync":        func(f *vfs.FS) api.Errno { return f.Sync("d/a") },
		"Sync again":  func(f *vfs.FS) api.Errno { return f.Sync("e/b") },
		"SyncDir":     func(f *vfs.FS) api.Errno { return f.SyncDir("d") },
	}
}

// stage is a disk on which all of calls would answer OK.
func stage(t *testing.T) *vfs.FS {
	t.Helper()
	f := disk(t, 20, "d", "e", "empty")
	file(t, f, "e/b", "b")
	fine(t, f.Create("d/a"), f.Append("d/a", []byte("abc")))
	return f
}

// halves is what d/a holds when half of a call was done.
func halves(name string) (string, int) {
	switch name {
	case "Write":
		return "aVW", 5
	case "Append":
		return "abcVW", 5
	}
	return "abc", 3
}

// P2.5: each of the calls is a change, is counted, and errs.
func TestEachChange(t *testing.T) {
	for name, call := range calls() {
		f := stage(t)
		was := told(f)
		fine(t, call(f.Clone()))
		for _, c := range []struct {
			set  func(*vfs.FS)
			want api.Errno
		}{
			{func(f *vfs.FS) { f.Fail(1, 1) }, api.ErrIO},
			{func(f *vfs.FS) { f.Stop(1) }, api.ErrStop},
		} {
			g := f.Clone()
			c.set(g)
			if e := call(g); e != c.want {
				t.Errorf("%s: %v, want %v", name, e, c.want)
			}
			bytes, open := halves(name)
			holds(t, g, "d/a", bytes, open)
			if open == 3 {
				same(t, g, was)
			}
		}
		// Behind the first one that errs nothing is done by halves.
		g := f.Clone()
		g.Fail(1, 2)
		refused(t, api.ErrIO, g.Sync("e/b"), call(g))
		same(t, g, was)
		g = f.Clone()
		g.Stop(1)
		refused(t, api.ErrStop, g.Sync("e/b"), call(g), call(g))
		same(t, g, was)
		// It is counted.
		g = f.Clone()
		g.Fail(2, 1)
		fine(t, call(g))
		refused(t, api.ErrIO, g.Mkdir("next"))
		g = f.Clone()
		g.Stop(2)
		fine(t, call(g))
		refused(t, api.ErrStop, g.Mkdir("next"))
	}
}

// P2.5: what answers another error, or changes nothing, is not counted.
func TestNoChange(t *testing.T) {
	f := stage(t)
	f.Fail(1, 1)
	f.Stop(2)
	refused(t, api.ErrThere, f.Mkdir("d"), f.Create("d/a"), f.Link("d/a", "e/b"))
	refused(t, api.ErrArg, f.Mkdir("/"), f.Write("d/a", 9, nil), f.Cut("d/a", 9), f.Sync("d"), f.SyncDir("d/a"))
	refused(t, api.ErrNone, f.Rmdir("x"), f.Remove("d/x"), f.Rename("d/x", "d/y"), f.Sync("d/x"), f.SyncDir("x"))
	refused(t, api.ErrState, f.Rmdir("d"), f.Flip("d/a", 0))
	refused(t, api.ErrDisk, f.Append("d/a", make([]byte, 99)))
	fine(t, f.Flip("e/b", 0))
	f.Dirs()
	f.List("d")
	f.Read("d/a")
	f.ReadAt("d/a", 0, 1)
	f.Size("d/a")
	f.Used()
	f.Unsynced("d/a")
	f.Open("d")
	f.Same("d/a", "e/b")
	f.Image()
	f.Clone()
	refused(t, api.ErrIO, f.Sync("d/a"))
	refused(t, api.ErrStop, f.Sync("d/a"))
	// With a disk that has stopped, what would not answer OK answers its own error, and what is no change is done.
	refused(t, api.ErrThere, f.Create("d/a"))
	fine(t, f.Flip("e/b", 0))
}

// answers are what so many changes answer, one behind the other.
func answers(f *vfs.FS, many int) string {
	s := ""
	for range many {
		switch f.Sync("d/a") {
		case api.OK:
			s += "."
		case api.ErrIO:
			s += "F"
		case api.ErrStop:
			s += "S"
		default:
			s += "?"
		}
	}
	return s
}

// P2.5
func TestFailAndStop(t *testing.T) {
	for _, c := range []struct {
		set  func(*vfs.FS)
		want string
	}{
		{func(f *vfs.FS) {}, "........"},
		{func(f *vfs.FS) { f.Fail(1, 1) }, "F......."},
		{func(f *vfs.FS) { f.Fail(3, 2) }, "..FF...."},
		{func(f *vfs.FS) { f.Fail(8, 9) }, ".......F"},
		{func(f *vfs.FS) { f.Fail(9, 9) }, "........"},
		{func(f *vfs.FS) { f.Fail(2, math.MaxInt) }, ".FFFFFFF"},
		{func(f *vfs.FS) { f.Fail(math.MaxInt, math.MaxInt) }, "........"},
		{func(f *vfs.FS) { f.Fail(0, 3) }, "........"},
		{func(f *vfs.FS) { f.Fail(-1, 9) }, "........"},
		{func(f *vfs.FS) { f.Fail(math.MinInt, math.MaxInt) }, "........"},
		{func(f *vfs.FS) { f.Fail(2, 0) }, "........"},
		{func(f *vfs.FS) { f.Fail(2, -1) }, "........"},
		{func(f *vfs.FS) { f.Fail(2, math.MinInt) }, "........"},
		{func(f *vfs.FS) { f.Fail(2, 3); f.Fail(4, 1) }, "...F...."},
		{func(f *vfs.FS) { f.Fail(2, 3); f.Fail(0, 0) }, "........"},
		{func(f *vfs.FS) { f.Stop(1) }, "SSSSSSSS"},
		{func(f *vfs.FS) { f.Stop(4) }, "...SSSSS"},
		{func(f *vfs.FS) { f.Stop(math.MaxInt) }, "........"},
		{func(f *vfs.FS) { f.Stop(2); f.Stop(0) }, "........"},
		{func(f *vfs.FS) { f.Stop(2); f.Stop(-1) }, "........"},
		{func(f *vfs.FS) { f.Stop(2); f.Stop(math.MinInt) }, "........"},
		{func(f *vfs.FS) { f.Stop(2); f.Stop(5) }, "....SSSS"},
		{func(f *vfs.FS) { f.Fail(2, 3); f.Stop(4) }, ".FFSSSSS"},
		{func(f *vfs.FS) { f.Stop(3); f.Fail(2, 9) }, ".FSSSSSS"},
		{func(f *vfs.FS) { f.Stop(3); f.Fail(0, 9) }, "..SSSSSS"},
		{func(f *vfs.FS) { f.Fail(2, 9); f.Stop(0) }, ".FFFFFFF"},
		{func(f *vfs.FS) { f.Fail(1, 9); f.Stop(1); f.Crash(nil, []int{1}) }, "........"},
	} {
		f := disk(t, 9, "d")
		fine(t, f.Create("d/a"))
		c.set(f)
		if s := answers(f, 8); s != c.want {
			t.Errorf("%s, want %s", s, c.want)
		}
	}
}

// P2.5: each counts from its own call on, also what is not done.
func TestCounts(t *testing.T) {
	f := disk(t, 9, "d")
	fine(t, f.Create("d/a"))
	f.Fail(3, 1)
	s := answers(f, 1)
	f.Stop(2)
	s += answers(f, 3)
	f.Stop(0)
	s += answers(f, 2)
	if s != "..SS.." {
		t.Error(s)
	}
	f.Stop(1)
	s = answers(f, 1)
	f.Fail(3, 2)
	s += answers(f, 2)
	f.Stop(0)
	s += answers(f, 3)
	if s != "SSSFF." {
		t.Error(s)
	}
}

// P2.5: half is written of the first one alone, and if both err only of Stop's.
func TestHalves(t *testing.T) {
	for _, c := range []struct {
		set  func(*vfs.FS)
		want string
		e    api.Errno
	}{
		{func(f *vfs.FS) { f.Fail(1, 9) }, "abc12", api.ErrIO},
		{func(f *vfs.FS) { f.Fail(1, 9); f.Sync("d/a") }, "abc", api.ErrIO},
		{func(f *vfs.FS) { f.Stop(1) }, "abc12", api.ErrStop},
		{func(f *vfs.FS) { f.Stop(1); f.Sync("d/a") }, "abc", api.ErrStop},
		{func(f *vfs.FS) { f.Stop(1); f.Fail(1, 1) }, "abc12", api.ErrStop},
		{func(f *vfs.FS) { f.Stop(1); f.Sync("d/a"); f.Fail(1, 1) }, "abc", api.ErrStop},
		{func(f *vfs.FS) { f.Fail(1, 9); f.Sync("d/a"); f.Stop(1) }, "abc12", api.ErrStop},
	} {
		f := disk(t, 20, "d")
		file(t, f, "d/a", "abc")
		c.set(f)
		refused(t, c.e, f.Append("d/a", []byte("12345")))
		holds(t, f, "d/a", c.want, len(c.want)-3)
		used(t, f, len(c.want))
	}
}

// P2.5: half of a write that would only just fit, written over and behind.
func TestHalfOver(t *testing.T) {
	f := disk(t, 7, "d")
	file(t, f, "d/a", "abc")
	f.Fail(1, 1)
	refused(t, api.ErrDisk, f.Write("d/a", 1, []byte("1234567")))
	refused(t, api.ErrIO, f.Write("d/a", 1, []byte("123456")))
	holds(t, f, "d/a", "a123", 3)
	fine(t, f.Write("d/a", 1, []byte("XYZ???")))
	holds(t, f, "d/a", "aXYZ???", 9)
	f.Crash([]int{4}, nil)
	holds(t, f, "d/a", "aX23", 0)
}

// P2.6
func TestFlip(t *testing.T) {
	f := disk(t, 9, "d")
	fine(t, f.Create("d/a"))
	refused(t, api.ErrArg, f.Flip("d/a", 0))
	fine(t, f.Append("d/a", []byte{0, 0xff}))
	refused(t, api.ErrState, f.Flip("d/a", 0), f.Flip("d/a", -1), f.Flip("d/a", 99))
	fine(t, f.Sync("d/a"))
	refused(t, api.ErrArg, f.Flip("d/a", -1), f.Flip("d/a", 16), f.Flip("d/a", math.MaxInt), f.Flip("d/a", math.MinInt), f.Flip("d/a", -8))
	holds(t, f, "d/a", "\x00\xff", 0)
	for bit, want := range []string{"\x01\xff", "\x02\xff", "\x04\xff", "\x08\xff", "\x10\xff", "\x20\xff", "\x40\xff", "\x80\xff",
		"\x00\xfe", "\x00\xfd", "\x00\xfb", "\x00\xf7", "\x00\xef", "\x00\xdf", "\x00\xbf", "\x00\x7f"} {
		fine(t, f.Flip("d/a", bit))
		holds(t, f, "d/a", want, 0)
		fine(t, f.SyncDir("d"))
		f.Crash(nil, nil)
		holds(t, f, "d/a", want, 0)
		fine(t, f.Flip("d/a", bit))
	}
	holds(t, f, "d/a", "\x00\xff", 0)
}

// P2.7: of one directory's open changes the first ones stay.
func TestCrashNames(t *testing.T) {
	f := disk(t, 99, "d")
	file(t, f, "d/a", "A")
	file(t, f, "d/b", "B")
	fine(t, f.Rename("d/a", "d/b"), f.Create("d/c"), f.Remove("d/b"), f.Link("d/c", "d/b"))
	for i, want := range []string{"a b", "b", "b c", "c", "b c"} {
		for _, n := range []int{i, i + 5, i + 50} {
			g := f.Clone()
			g.Crash(nil, []int{n})
			names(t, g, "d", want, 0)
			if i == 0 {
				holds(t, g, "d/a", "A", 0)
				holds(t, g, "d/b", "B", 0)
			}
			if i == 1 || i == 2 {
				holds(t, g, "d/b", "A", 0)
			}
			if g.Same("d/b", "d/c") != (i == 4) {
				t.Error(i)
			}
		}
	}
	f.Crash(nil, []int{-1})
	names(t, f, "d", "a b", 0)
}

// P2.7: whose turn it is.
func TestCrashTurns(t *testing.T) {
	f := disk(t, 99, "d", "c", "x", "b", "a")
	for _, d := range []string{"d", "c", "b", "a"} {
		fine(t, f.Create(d+"/1"), f.Create(d+"/2"), f.Create(d+"/3"))
	}
	// Neither x, without open changes, nor c, when all of it is fast, takes a number.
	for _, c := range []struct {
		list []int
		fast bool
		want string
	}{
		{nil, false, " "},
		{[]int{1}, false, "1 1 1 1"},
		{[]int{1, 2}, false, "1 2 1 2"},
		{[]int{0, 3, 2}, false, "0 3 2 0"},
		{[]int{0, 3, 2}, true, "0 3 3 2"},
		{[]int{-1, 5, math.MaxInt, math.MinInt, 9}, false, "0 1 3 0"},
	} {
		g := f.Clone()
		if c.fast {
			fine(t, g.SyncDir("c"))
		}
		g.Crash([]int{7}, c.list)
		for i, d := range []string{"a", "b", "c", "d"} {
			many := 0
			if len(c.list) > 0 {
				many = int(c.want[2*i] - '0')
			}
			names(t, g, d, "1 2 3"[:max(2*many-1, 0)], 0)
		}
	}
}

// P2.7: of a file's open writes the first bytes stay.
func TestCrashBytes(t *testing.T) {
	f := disk(t, 99, "d")
	file(t, f, "d/a", "abcd")
	fine(t, f.Write("d/a", 2, []byte("123")), f.Write("d/a", 0, []byte("XY")), f.Append("d/a", []byte("!")), f.Write("d/a", 4, []byte("pqr")))
	want := []string{"abcd", "ab1d", "ab12", "ab123", "Xb123", "XY123", "XY123!", "XY12p!", "XY12pq", "XY12pqr"}
	for i, s := range want {
		for _, n := range []int{i, i + 10, i + 100} {
			g := f.Clone()
			g.Crash([]int{n}, nil)
			holds(t, g, "d/a", s, 0)
			used(t, g, len(s))
		}
	}
	f.Crash([]int{-3}, nil)
	holds(t, f, "d/a", "abcd", 0)
}

// P2.7: bytes are looked at by the first path that a file has behind the crash of names; each file once.
func TestCrashBytesTurns(t *testing.T) {
	f := disk(t, 99, "d", "d!")
	for _, p := range []string{"d/b", "d!/a", "d/c", "d/a", "d/gone"} {
		fine(t, f.Create(p), f.Append(p, []byte("12345")))
	}
	fine(t, f.Create("d/empty"), f.Link("d!/a", "d/zz"), f.SyncDir("d!"), f.SyncDir("d"), f.Sync("d/c"))
	fine(t, f.Rename("d/a", "d/z"), f.Remove("d/gone"))
	g := f.Clone()
	// Of the names only the Rename stays: d/b, d/gone, d/z, and the file of d!/a, whose first path is d/zz.
	g.Crash([]int{1, 2, 3, 4}, []int{1})
	names(t, g, "d", "b c empty gone z zz", 0)
	holds(t, g, "d/b", "1", 0)
	holds(t, g, "d/gone", "12", 0)
	holds(t, g, "d/z", "123", 0)
	holds(t, g, "d!/a", "1234", 0)
	holds(t, g, "d/c", "12345", 0)
	used(t, g, 15)
	// All names stay: d/gone takes no number.
	g = f.Clone()
	g.Crash([]int{1, 2, 3, 4}, []int{2})
	holds(t, g, "d/b", "1", 0)
	holds(t, g, "d/z", "12", 0)
	holds(t, g, "d/zz", "123", 0)
	used(t, g, 11)
	// None stays.
	f.Crash([]int{1, 2}, nil)
	names(t, f, "d", "a b c empty gone zz", 0)
	holds(t, f, "d/a", "1", 0)
	holds(t, f, "d/b", "12", 0)
	holds(t, f, "d/gone", "1", 0)
	holds(t, f, "d/zz", "12", 0)
}

// P2.7: what is there behind a crash stands fast.
func TestCrashStandsFast(t *testing.T) {
	f := disk(t, 99, "d")
	fine(t, f.Create("d/a"), f.Append("d/a", []byte("abc")), f.Create("d/b"))
	f.Crash([]int{2}, []int{1})
	names(t, f, "d", "a", 0)
	holds(t, f, "d/a", "ab", 0)
	fine(t, f.Flip("d/a", 0), f.Append("d/a", []byte("+")), f.Create("d/b"))
	f.Crash(nil, nil)
	names(t, f, "d", "a", 0)
	holds(t, f, "d/a", "`b", 0)
}

// P2.7: the lists are not changed.
func TestCrashLists(t *testing.T) {
	f := disk(t, 99, "d")
	fine(t, f.Create("d/a"), f.Append("d/a", []byte("abc")), f.Create("d/b"))
	keeps, names := []int{-5, 2}, []int{9, -1}
	f.Crash(keeps, names)
	if keeps[0] != -5 || keeps[1] != 2 || names[0] != 9 || names[1] != -1 {
		t.Error(keeps, names)
	}
}

// P2.4: a clone is the same, with all that is open and all that the script says, and neither knows of the other one.
func TestClone(t *testing.T) {
	f := disk(t, 20, "d", "e")
	file(t, f, "d/a", "abc")
	fine(t, f.Link("d/a", "e/a"), f.Write("d/a", 1, []byte("XYZ")), f.Create("d/b"), f.Remove("d/a"))
	f.Fail(2, 1)
	f.Stop(4)
	fine(t, f.Sync("d/b"))
	was := told(f)
	g := f.Clone()
	same(t, g, was)
	h := g.Clone()
	refused(t, api.ErrIO, g.Append("e/a", []byte("12")))
	fine(t, g.Remove("e/a"))
	refused(t, api.ErrStop, g.Create("d/x"))
	same(t, f, was)
	g.Crash(nil, nil)
	names(t, g, "d", "a", 0)
	fine(t, g.Write("d/a", 0, []byte("???")), g.Mkdir("new"), g.Rmdir("e"), g.Remove("d/a"), g.SyncDir("d"))
	same(t, f, was)
	same(t, h, was)
	refused(t, api.ErrIO, f.Create("d/c"))
	fine(t, f.Create("d/c"))
	refused(t, api.ErrStop, f.Create("d/x"))
	f.Crash([]int{1}, []int{1})
	names(t, f, "d", "a b", 0)
	holds(t, f, "d/a", "aXc", 0)
	if f.Same("d/a", "d/b") {
		t.Error("two files are one")
	}
	same(t, h, was)
	h.Crash([]int{3}, []int{0, 1})
	if !h.Same("d/a", "e/a") {
		t.Error("one file is two")
	}
	holds(t, h, "e/a", "aXYZ", 0)
	// A file made by the clone is another one than those that it has.
	fine(t, h.Create("d/n"))
	holds(t, h, "d/n", "", 0)
	fine(t, h.Clone().Sync("d/n"))
}

// P2.8, P2.10
func TestAllSynced(t *testing.T) {
	f := disk(t, 99, "d", "e")
	file(t, f, "d/a", "abc")
	file(t, f, "e/b", "")
	fine(t, f.Link("d/a", "e/c"), f.Write("e/c", 1, []byte("X")), f.Sync("d/a"), f.Rename("e/b", "d/b"), f.SyncDir("d"), f.SyncDir("e"))
	was := told(f)
	for _, l := range [][]int{nil, {0}, {1}, {7, 3, 9}, {-1}} {
		f.Crash(l, l)
		same(t, f, was)
	}
	fine(t, f.Append("d/b", []byte("open")), f.Create("d/z"), f.Append("d/z", []byte("lost")))
	f.Crash([]int{2}, []int{1})
	was = told(f)
	holds(t, f, "d/a", "aXc", 0)
	f.Crash([]int{9}, []int{9})
	same(t, f, was)
}

// P2.9
func TestAllOrNothing(t *testing.T) {
	f := disk(t, 99, "d")
	file(t, f, "d/now", "the old one")
	fine(t, f.Create("d/new"), f.Append("d/new", []byte("the new")), f.Write("d/new", 4, []byte("n_w, whole")), f.Sync("d/new"), f.Rename("d/new", "d/now"))
	for n := range 9 {
		g := f.Clone()
		g.Crash([]int{n, 3}, []int{n, 1})
		want := "the old one"
		if n%3 == 2 {
			want = "the n_w, whole"
		}
		holds(t, g, "d/now", want, 0)
	}
}

// The chapter's examples.
func TestExamples(t *testing.T) {
	f := disk(t, 99, "d")
	fine(t, f.Create("d/a"), f.Append("d/a", []byte("xyz")), f.Sync("d/a"), f.Write("d/a", 1, []byte("UV")), f.SyncDir("d"))
	f.Crash([]int{1}, nil)
	holds(t, f, "d/a", "xUz", 0)
	g := disk(t, 99, "d", "e")
	fine(t, g.Create("d/a"), g.SyncDir("d"), g.Rename("d/a", "e/a"))
	g.Crash(nil, []int{0, 1})
	if !g.Same("d/a", "e/a") {
		t.Error(told(g))
	}
}

// A disk that nobody made has no room, and does not panic.
func TestZero(t *testing.T) {
	var f vfs.FS
	fine(t, f.Mkdir("d"), f.Create("d/a"), f.Sync("d/a"))
	refused(t, api.ErrDisk, f.Append("d/a", []byte("x")))
	f.Clone().Crash(nil, nil)
	var g vfs.FS
	g.Crash([]int{1}, []int{1})
	if len(g.Dirs())+len(g.Image())+len(g.Clone().Dirs()) != 0 {
		t.Error(told(&g))
	}
}
