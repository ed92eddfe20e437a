package tables_test

import (
	"math"
	"testing"

	"sediment/api"
)

// P12.3
func TestGet(t *testing.T) {
	for _, how := range hows() {
		f := disk(t, 1<<20)
		x := fresh(t, f, how, 3)
		writes(t, x, how, 1, 2, math.MaxUint64)
		was := look(f)
		kept(t, x, 0)
		p := gets(t, x, 1)
		kept(t, x, 1)
		q := gets(t, x, 1)
		kept(t, x, 1)
		a := gets(t, x, math.MaxUint64)
		kept(t, x, 2)
		if p == q || p == a || q == a {
			t.Error(p, q, a)
		}
		y, _, _ := x.Get(2)
		z, _, _ := x.Get(2)
		if y != z {
			t.Error("what is open was read again")
		}
		same(t, f, was)
	}
}

// P12.3: what can't be read, what is no table.
func TestGetRefuses(t *testing.T) {
	f := disk(t, 1<<20)
	x := fresh(t, f, api.Bytewise, 3)
	for _, n := range []uint64{0, 1, math.MaxUint64} {
		lacks(t, x, n, api.ErrNone)
	}
	writes(t, x, api.Bytewise, 1, 2)
	_, other := one(t, api.Reverse, 3)
	fine(t, f.Create(path(3)), f.Append(path(3), other), f.Create(path(4)), f.Flip(path(1), 77), f.Cut(path(2), 100))
	fine(t, f.Create(path(5)), f.Append(path(5), make([]byte, api.MaxBytes/8)))
	was := look(f)
	for _, n := range []uint64{1, 2, 3, 4, 5} {
		lacks(t, x, n, api.ErrCorrupt)
		lacks(t, x, n, api.ErrCorrupt)
	}
	kept(t, x, 0)
	same(t, f, was)
	// What could not be read is read again; no error is kept.
	fine(t, f.Flip(path(1), 77))
	uses(t, x, 1)
	lists(t, x, 1, 2, 3, 4, 5)
}

// P12.3: an empty table that lies there is told.
func TestGetEmpty(t *testing.T) {
	f := disk(t, 1<<20)
	x := fresh(t, f, api.Bytewise, 3)
	b := built(t, small(api.Bytewise), nil, nil)
	fine(t, f.Create(path(1)), f.Append(path(1), b))
	y, pin, e := x.Get(1)
	if e != api.OK || pin < 1 || told(api.Bytewise, y) != told(api.Bytewise, opened(t, api.Bytewise, b)) {
		t.Error(pin, e)
	}
}

// P12.3: a file that was not written by these tables, and does not stand fast, is read as it is now; files whose names are no Names are not.
func TestGetOthers(t *testing.T) {
	f := disk(t, 1<<20)
	_, b := one(t, api.Bytewise, 9)
	fine(t, f.Mkdir("e"), f.Create("e/000009.sst"), f.Append("e/000009.sst", b), f.Create(dir+"/9.sst"), f.Append(dir+"/9.sst", b))
	x := fresh(t, f, api.Bytewise, 3)
	lacks(t, x, 9, api.ErrNone)
	fine(t, f.Link("e/000009.sst", path(9)))
	uses(t, x, 9)
}

// P12.3: what is open stays as it is, whatever becomes of the file.
func TestOpenStays(t *testing.T) {
	f := disk(t, 1<<20)
	x := fresh(t, f, api.Bytewise, 3)
	writes(t, x, api.Bytewise, 1, 2, 3)
	uses(t, x, 1, 2, 3)
	fine(t, f.Flip(path(1), 5), f.Remove(path(2)), f.Rename(path(1), path(3)))
	uses(t, x, 1, 2, 3)
	kept(t, x, 3)
	lists(t, x, 3)
	// Another one of that name: it is not read, as long as the first one is open; others know nothing of that.
	l, _ := one(t, api.Bytewise, 20)
	if _, e := x.Write(2, small(api.Bytewise), l, nil); e != api.OK {
		t.Error(e)
	}
	uses(t, x, 1, 2, 3)
	y := fresh(t, f, api.Bytewise, 3)
	lacks(t, y, 1, api.ErrNone)
	lacks(t, y, 3, api.ErrCorrupt)
	if z, _, e := y.Get(2); e != api.OK {
		t.Error(e)
	} else if v, _ := z.Get("k", 9); v.Value != "table 20" {
		t.Error(v)
	}
}

// P12.3: a write reads nothing, and what it wrote is not open.
func TestWriteOpensNothing(t *testing.T) {
	f := disk(t, 1<<20)
	x := fresh(t, f, api.Bytewise, 3)
	writes(t, x, api.Bytewise, 1)
	_, b := one(t, api.Bytewise, 2)
	if _, e := x.Add(2, b); e != api.OK {
		t.Error(e)
	}
	kept(t, x, 0)
	blank(t, f, 1, 2)
	lacks(t, x, 1, api.ErrCorrupt)
	lacks(t, x, 2, api.ErrCorrupt)
}

// P12.3: the one that was used longest ago goes first.
func TestLongestAgoGoes(t *testing.T) {
	f := disk(t, 1<<20)
	x := fresh(t, f, api.Bytewise, 3)
	writes(t, x, api.Bytewise, 1, 2, 3, 4, 5, 6)
	uses(t, x, 1, 2, 3)
	kept(t, x, 3)
	uses(t, x, 1, 4) // 2 goes
	kept(t, x, 3)
	blank(t, f, 1, 2, 3, 4)
	uses(t, x, 3, 1, 4)
	lacks(t, x, 2, api.ErrCorrupt)
	uses(t, x, 5) // 3 goes: what could not be read let none go
	kept(t, x, 3)
	blank(t, f, 5)
	uses(t, x, 1, 4, 5)
	lacks(t, x, 3, api.ErrCorrupt)
}

// P12.3: what is pinned stays, and counts; when it was used is when its last pin was let go.
func TestPinned(t *testing.T) {
	f := disk(t, 1<<20)
	x := fresh(t, f, api.Bytewise, 2)
	writes(t, x, api.Bytewise, 1, 2, 3, 4)
	p, q := gets(t, x, 1), gets(t, x, 2)
	r, s := gets(t, x, 3), gets(t, x, 1)
	kept(t, x, 3)
	fine(t, x.Free(p))
	kept(t, x, 3)
	fine(t, x.Free(s)) // one too many: 1 goes
	kept(t, x, 2)
	blank(t, f, 1, 2, 3)
	lacks(t, x, 1, api.ErrCorrupt)
	uses(t, x, 2, 3)
	kept(t, x, 2)
	uses(t, x, 4) // both others are pinned: it goes as soon as it is let go
	kept(t, x, 2)
	blank(t, f, 4)
	lacks(t, x, 4, api.ErrCorrupt)
	fine(t, x.Free(r), x.Free(q))
	kept(t, x, 2)
	uses(t, x, 3, 2)
}

// P12.3: pins that are none.
func TestFree(t *testing.T) {
	f := disk(t, 1<<20)
	x := fresh(t, f, api.Bytewise, 1)
	for _, pin := range []int{0, 1, -1, math.MinInt, math.MaxInt} {
		refused(t, api.ErrPin, x.Free(pin))
	}
	writes(t, x, api.Bytewise, 1)
	p := gets(t, x, 1)
	lacks(t, x, 2, api.ErrNone)
	for _, pin := range []int{0, -p, p + 1, math.MaxInt} {
		refused(t, api.ErrPin, x.Free(pin))
	}
	kept(t, x, 1)
	y := fresh(t, f, api.Bytewise, 1)
	refused(t, api.ErrPin, y.Free(p))
	fine(t, x.Free(p))
	refused(t, api.ErrPin, x.Free(p))
	if q := gets(t, x, 1); q == p {
		t.Error("a pin was given again")
	}
	refused(t, api.ErrPin, x.Free(p))
}

// P12.3
func TestRemove(t *testing.T) {
	f := disk(t, 1<<20)
	x := fresh(t, f, api.Bytewise, 3)
	writes(t, x, api.Bytewise, 1, 2, 3)
	uses(t, x, 1, 3)
	fine(t, x.Remove(1), x.Remove(2))
	kept(t, x, 1)
	lists(t, x, 3)
	lacks(t, x, 1, api.ErrNone)
	lacks(t, x, 2, api.ErrNone)
	refused(t, api.ErrNone, x.Remove(1), x.Remove(2), x.Remove(0), x.Remove(math.MaxUint64))
	if n, e := f.Open(dir); n != 0 || e != api.OK {
		t.Error(n, e)
	}
	f.Crash(nil, nil)
	lists(t, x, 3)
	uses(t, x, 3)
}

// P12.3: whoever has it pinned keeps it.
func TestRemovePinned(t *testing.T) {
	f := disk(t, 1<<20)
	x := fresh(t, f, api.Bytewise, 1)
	writes(t, x, api.Bytewise, 1, 2)
	y, p, _ := x.Get(1)
	was := told(api.Bytewise, y)
	fine(t, x.Remove(1))
	kept(t, x, 0)
	lacks(t, x, 1, api.ErrNone)
	uses(t, x, 2) // the pinned one still counts
	kept(t, x, 0)
	l, _ := one(t, api.Bytewise, 20)
	if _, e := x.Write(1, small(api.Bytewise), l, nil); e != api.OK {
		t.Error(e)
	}
	if z, _, e := x.Get(1); e != api.OK || z == y {
		t.Error(e)
	} else if v, _ := z.Get("k", 9); v.Value != "table 20" {
		t.Error(v)
	}
	if told(api.Bytewise, y) != was {
		t.Error("a table that was told is another one now")
	}
	fine(t, x.Free(p))
	refused(t, api.ErrPin, x.Free(p))
}

// P12.3: what the disk says: of the Remove, nothing is done; of SyncDir, it is not open any more.
func TestRemoveErrs(t *testing.T) {
	for _, stop := range []bool{false, true} {
		f := disk(t, 1<<20)
		x := fresh(t, f, api.Bytewise, 3)
		writes(t, x, api.Bytewise, 1)
		uses(t, x, 1)
		script, want := func(n int) { f.Fail(n, 1) }, api.ErrIO
		if stop {
			script, want = f.Stop, api.ErrStop
		}
		was := look(f)
		script(1)
		refused(t, want, x.Remove(1))
		same(t, f, was)
		kept(t, x, 1)
		uses(t, x, 1)
		script(2)
		refused(t, want, x.Remove(1))
		kept(t, x, 0)
		lacks(t, x, 1, api.ErrNone)
		lists(t, x)
		if n, e := f.Open(dir); n != 1 || e != api.OK {
			t.Error(n, e)
		}
		// A crash brings it back: it does not stand fast that it is gone.
		f.Crash(nil, nil)
		uses(t, x, 1)
		script(3)
		fine(t, x.Remove(1))
		refused(t, want, f.SyncDir(dir))
	}
}

// P12.3: of a file whose table is open, and which is gone already, nothing is done.
func TestRemoveGone(t *testing.T) {
	f := disk(t, 1<<20)
	x := fresh(t, f, api.Bytewise, 3)
	writes(t, x, api.Bytewise, 1)
	uses(t, x, 1)
	fine(t, f.Remove(path(1)))
	refused(t, api.ErrNone, x.Remove(1))
	kept(t, x, 1)
	uses(t, x, 1)
}

// P12.3: by numbers, not by names; of files that are no tables by their names none, whatever lies in them.
func TestList(t *testing.T) {
	f := disk(t, 1<<20)
	x := fresh(t, f, api.Bytewise, 3)
	lists(t, x)
	fine(t, f.Mkdir("e"), f.Create("e/000008.sst"))
	for _, name := range []string{"1000000.sst", "999999.sst", "000000.sst", "000010.sst", "000009.sst", "18446744073709551615.sst", "2000000.sst", "10000000.sst",
		"7.sst", "0000007.sst", "000007", "000007.log", "MANIFEST", ".sst", "x00007.sst", "18446744073709551616.sst", "+00007.sst"} {
		fine(t, f.Create(dir+"/"+name))
	}
	lists(t, x, 0, 9, 10, 999999, 1000000, 2000000, 10000000, math.MaxUint64)
	l, _ := x.List()
	m, _ := x.List()
	l[0] = 5
	_ = append(l[:1], 6)
	if m[0] != 0 || m[1] != 9 {
		t.Error("two lists share memory")
	}
	lists(t, x, 0, 9, 10, 999999, 1000000, 2000000, 10000000, math.MaxUint64)
	kept(t, x, 0)
}
