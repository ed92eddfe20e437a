package manifest_test

import (
	"fmt"
	"math"
	"testing"

	"sediment/api"
	"sediment/manifest"
	"sediment/vfs"
)

// P14.3: a record of the edits, and of one more, behind all that is there; it stands fast.
func TestLog(t *testing.T) {
	f := disk(t, 10000)
	m := created(t, f)
	fine(t, m.Log(some()), m.Log(list(drops(2))), m.Log(list(api.Edit{})))
	want := logOf(1, false, recordOf(both(2, 0)), recordOf(append(some(), both(20, 77))...), recordOf(drops(2), both(20, 77)), recordOf(api.Edit{}, both(20, 77)))
	if b := read(t, f, path(1)); string(b) != string(want) {
		t.Errorf("the file is %x, want %x", b, want)
	}
	if n, e := f.Unsynced(path(1)); n != 0 || e != api.OK {
		t.Error(n, e)
	}
	if m.Size() != len(want) || m.File() != 1 || m.Next() != 20 || m.Seq() != 77 || m.Broken() {
		t.Error(tells(m))
	}
	lists(t, f, "CURRENT", "MANIFEST-000001")
	// A number that was told is Logged, too.
	m.NewNumber()
	fine(t, m.Log(list(api.Edit{})))
	want = append(want, logOf(1, false, recordOf(api.Edit{}, both(21, 77)))...)
	if b := read(t, f, path(1)); string(b) != string(want) {
		t.Errorf("the file is %x, want %x", b, want)
	}
}

// P14.3, 14.2: what an edit makes.
func TestMade(t *testing.T) {
	m := created(t, disk(t, 10000))
	state := func(family uint32, want string) {
		t.Helper()
		x, e := m.State(family)
		if s := fmt.Sprint(x.Family, x.Name, x.How, x.Log, x.Version, e); s != want {
			t.Errorf("%s, want %s", s, want)
		}
	}
	none := fmt.Sprint(0, "", 0, 0, api.Version{}, api.ErrNone)
	state(3, none)
	a, b := file(5, "a", "c"), file(6, "e", "g")
	fine(t, m.Log(list(makes(3, "three", api.Bytewise))))
	state(3, fmt.Sprint(3, "three", 0, 0, api.Version{}, api.OK))
	fine(t, m.Log(list(logs(3, 8))))
	state(3, fmt.Sprint(3, "three", 0, 8, api.Version{}, api.OK))
	fine(t, m.Log(list(adds(3, added(1, b), added(1, a)))))
	state(3, fmt.Sprint(3, "three", 0, 8, at(1, a, b), api.OK))
	fine(t, m.Log(list(takes(3, gone(1, 6)))))
	state(3, fmt.Sprint(3, "three", 0, 8, at(1, a), api.OK))
	// A table goes from one level to another one; a Log that is lower than the one ahead is taken, too.
	e := api.Edit{Family: 3, HasLog: true, Log: 2, Gone: []api.Gone{gone(1, 5)}, Added: []api.Added{added(6, a)}}
	fine(t, m.Log(list(e)))
	state(3, fmt.Sprint(3, "three", 0, 2, at(6, a), api.OK))
	// All at once, by the comparator that it says itself.
	e = makes(math.MaxUint32, "last", api.Reverse)
	e.HasLog, e.Log, e.Added = true, math.MaxUint64, []api.Added{added(0, file(9, "z", "a")), added(0, file(10, "z", "a"))}
	e.HasNext, e.Next, e.HasSeq, e.Seq = true, 50, true, 60
	fine(t, m.Log(list(e)))
	state(math.MaxUint32, fmt.Sprint(uint32(math.MaxUint32), "last", 1, uint64(math.MaxUint64), at(0, file(10, "z", "a"), file(9, "z", "a")), api.OK))
	if m.Next() != 50 || m.Seq() != 60 {
		t.Error(m.Next(), m.Seq())
	}
	// Dropped, with all that it says besides; made again it is new.
	e = drops(3)
	e.HasLog, e.Log, e.Gone, e.HasSeq, e.Seq = true, 99, []api.Gone{gone(6, 5)}, true, 61
	fine(t, m.Log(list(e)))
	state(3, none)
	if m.Seq() != 61 {
		t.Error(m.Seq())
	}
	fine(t, m.Log(list(makes(3, "new", 1))))
	state(3, fmt.Sprint(3, "new", 1, 0, api.Version{}, api.OK))
	// What is not said plays no part; nor does the Family of an edit that says nothing of one.
	fine(t, m.Log(list(api.Edit{Family: 3, Name: "x", How: 7, Log: 9, Next: 1, Seq: 1}, api.Edit{Family: 77, HasSeq: true, Seq: 62})))
	state(3, fmt.Sprint(3, "new", 1, 0, api.Version{}, api.OK))
	state(77, none)
	if m.Next() != 50 || m.Seq() != 62 {
		t.Error(m.Next(), m.Seq())
	}
}

// P14.3: edits of one Log are made one behind the other.
func TestMadeInTurn(t *testing.T) {
	f := disk(t, 10000)
	m := created(t, f)
	x := added(1, file(5, "a", "c"))
	fine(t, m.Log(list(makes(1, "a", 0), adds(1, x), takes(1, gone(1, 5)), adds(1, x), drops(1), makes(1, "b", 1), logs(1, 5), nexts(7), seqs(3), nexts(7), nexts(9), seqs(4))))
	if said(m) != "[{1 b 1 5 "+fmt.Sprint(api.Version{})+"}] [] 4" || m.Next() != 9 {
		t.Error(tells(m))
	}
	still(t, f, m, func() {
		refused(t, api.ErrThere, m.Log(list(makes(2, "a", 0), makes(2, "a", 0))), m.Log(list(makes(2, "a", 0), adds(2, x), adds(2, x))))
		refused(t, api.ErrNone, m.Log(list(drops(1), logs(1, 5))), m.Log(list(makes(2, "a", 0), adds(2, x), takes(2, gone(1, 5)), takes(2, gone(1, 5)))))
		refused(t, api.ErrArg, m.Log(list(nexts(20), nexts(19))), m.Log(list(seqs(20), seqs(19))))
	})
	fine(t, opened(t, f).Log(list(logs(1, 6))))
}

// P14.3: the limits, each of which is allowed itself.
func TestLogLimits(t *testing.T) {
	f := disk(t, api.MaxDisk)
	m := created(t, f)
	many := make([]api.Edit, 1025)
	for i := range many {
		many[i] = makes(uint32(i), "x", 0)
	}
	still(t, f, m, func() {
		refused(t, api.ErrArg, m.Log(nil), m.Log([]api.Edit{}), m.Log(many), m.Log(make([]api.Edit, 1025)), m.Log(make([]api.Edit, 5000)))
		refused(t, api.ErrArg, m.Log(list(nexts(1<<60+1))), m.Log(list(nexts(1<<62))), m.Log(list(nexts(1<<62+1))), m.Log(list(nexts(math.MaxUint64))))
		refused(t, api.ErrArg, m.Log(list(seqs(api.MaxSeq+1))), m.Log(list(seqs(math.MaxUint64))))
		refused(t, api.ErrLong, m.Log(list(makes(1, text(65), 0))))
	})
	fine(t, m.Log(many[:1024]), m.Log(list(makes(5000, text(64), 0))), m.Log(list(adds(5, row(1024, 1, 1024)...))), m.Log(list(seqs(api.MaxSeq))), m.Log(list(nexts(1<<60))))
	if len(m.Families()) != 1025 || len(m.Live()) != 1024 || m.Seq() != api.MaxSeq || m.Next() != 1<<60 {
		t.Error(len(m.Families()), len(m.Live()), m.Seq(), m.Next())
	}
	still(t, f, m, func() {
		refused(t, api.ErrLong, m.Log(list(adds(5, added(2, file(2000, "a", "a"))))))
		refused(t, api.ErrArg, m.Log(list(nexts(1<<60+1))))
	})
	o := opened(t, f)
	if said(o) != said(m) || o.Next() != 1<<60+1 || o.File() != 1<<60 {
		t.Error(o.Next(), o.File())
	}
	// Numbers that are told may go beyond; they are Logged then, though none that is said may be.
	fine(t, o.Log(list(api.Edit{})))
	refused(t, api.ErrArg, o.Log(list(nexts(o.Next()))))
	if p := opened(t, f); p.Next() != 1<<60+2 {
		t.Error(p.Next())
	}
}

// P14.3: a record that is longer than a log takes changes nothing.
func TestLogTooLong(t *testing.T) {
	f := disk(t, api.MaxDisk)
	m := created(t, f)
	l := list(makes(1, "a", 0), makes(2, "b", 0), adds(1, row(1024, 1, 1024)...), adds(2, row(1000, 2000, 1024)...))
	for len(recordOf(append(l, both(2, 0))...)) <= api.MaxBytes {
		l = append(l, adds(2, added(2, file(uint64(5000+len(l)), string(rune('a'+len(l))), string(rune('a'+len(l)))))))
	}
	still(t, f, m, func() { refused(t, api.ErrLong, m.Log(l), m.Log(append(l, seqs(5)))) })
	// An error of an edit is told ahead of that.
	still(t, f, m, func() { refused(t, api.ErrNone, m.Log(append(l, drops(3)))) })
	last := len(l) - 1
	fine(t, m.Log(l[:last]), m.Log(l[last:]))
	if m.Broken() || len(m.Live()) != 2024+last-3 {
		t.Error(len(m.Live()))
	}
}

// P14.3: of several errors the first one is told.
func TestLogFirstError(t *testing.T) {
	f := disk(t, 10000)
	m := created(t, f)
	fine(t, m.Log(list(makes(1, "a", 0), adds(1, added(1, file(5, "a", "c"))), both(20, 20))))
	wrong := func(e api.Edit) api.Edit { // wrong in all that is looked at later
		e.HasNext, e.Next, e.HasSeq, e.Seq = true, 1<<62+1, true, 19
		return e
	}
	tooMany := make([]api.Gone, 1025)
	for i, x := range []struct {
		e    api.Edit
		want api.Errno
	}{
		{api.Edit{Family: 1, Make: true, Drop: true, Name: text(65)}, api.ErrArg},
		{makes(1, text(65), 0), api.ErrLong},
		{makes(1, "", 0), api.ErrArg},
		{makes(1, "a", 2), api.ErrArg},
		{takes(2, tooMany...), api.ErrLong},
		{takes(2, gone(7, 1)), api.ErrArg},
		{adds(2, added(-1, file(6, "a", "c"))), api.ErrArg},
		{adds(2, added(1, file(6, text(1025), "c"))), api.ErrLong},
		{adds(2, added(1, api.File{Smallest: api.Key{Kind: 3}})), api.ErrArg},
		{makes(1, "a", 0), api.ErrThere},
		{api.Edit{Family: 1, Make: true, Name: "a", Gone: []api.Gone{gone(1, 9)}}, api.ErrThere},
		{drops(2), api.ErrNone}, {logs(2, 1), api.ErrNone}, {takes(2, gone(1, 5)), api.ErrNone}, {adds(2, added(1, file(6, "z", "a"))), api.ErrNone},
		{takes(1, gone(1, 9)), api.ErrNone}, {takes(1, gone(2, 5)), api.ErrNone},
		{adds(1, added(1, file(5, "x", "z"))), api.ErrThere},
		{adds(1, added(1, file(6, "c", "d"))), api.ErrOverlap},
		{api.Edit{Family: 2, Make: true, Name: "a", Gone: []api.Gone{gone(1, 5)}}, api.ErrNone},
		{api.Edit{Family: 1, Drop: true, Gone: []api.Gone{gone(1, 9)}}, api.ErrNone},
	} {
		still(t, f, m, func() {
			if e := m.Log(list(x.e)); e != x.want {
				t.Errorf("%d: %d, want %d", i, e, x.want)
			}
			if e := m.Log(list(wrong(x.e), drops(9))); e != x.want {
				t.Errorf("%d, and more: %d, want %d", i, e, x.want)
			}
			if e := m.Log(list(logs(1, 7), x.e)); e != x.want {
				t.Errorf("%d, behind another one: %d, want %d", i, e, x.want)
			}
			// Next beyond what is Logged is told ahead of the edits behind.
			if e := m.Log(list(nexts(1<<60+1), x.e)); e != api.ErrArg {
				t.Errorf("%d, behind a Next: %d", i, e)
			}
		})
	}
	still(t, f, m, func() {
		refused(t, api.ErrArg, m.Log(list(nexts(19))), m.Log(list(seqs(19))), m.Log(list(both(21, 19))), m.Log(list(both(19, 21))), m.Log(list(both(1<<60+1, 21))))
		refused(t, api.ErrArg, m.Log(list(api.Edit{Family: 9, HasNext: true})), m.Log(list(api.Edit{Family: 9, HasSeq: true})))
	})
	fine(t, m.Log(list(both(20, 20))), m.Log(list(both(21, 21))))
}

// P14.3: a call of the disk that errs breaks it: what it says is as ahead, and it writes no more.
func TestBroken(t *testing.T) {
	for n := 1; n <= 2; n++ {
		for want, err := range errs(n) {
			f := disk(t, 10000)
			m := created(t, f)
			fine(t, m.Log(some()))
			ahead, size := said(m), m.Size()
			err(f)
			refused(t, want, m.Log(list(drops(2), both(30, 80))))
			if n == 2 { // the record is written, though it may not stand fast
				size += len(logOf(1, false, recordOf(drops(2), both(30, 80), both(30, 80))))
			}
			if !m.Broken() || said(m) != ahead || m.Next() != 20 || m.Size() != size || m.File() != 1 {
				t.Error(tells(m))
			}
			f.Fail(0, 0)
			f.Stop(0)
			still(t, f, m, func() {
				refused(t, api.ErrBroken, m.Log(list(drops(2))), m.Log(nil), m.Log(list(drops(99))), m.Log(make([]api.Edit, 2000)), m.Roll())
			})
			// Numbers are still told, and what it says; opened again it is whole.
			if m.NewNumber() != 20 || m.NewNumber() != 21 || m.Next() != 22 || !m.Broken() {
				t.Error(tells(m))
			}
			o := opened(t, f)
			if families := len(o.Families()); o.Broken() || families != 4-n || n == 1 && said(o) != ahead {
				t.Error(tells(o))
			}
			fine(t, o.Log(list(drops(7))))
		}
	}
	// A disk without room, and one from which the file was taken.
	f := disk(t, 60)
	m := created(t, f)
	refused(t, api.ErrDisk, m.Log(list(makes(1, text(40), 0))))
	refused(t, api.ErrBroken, m.Log(list(seqs(1))))
	f = disk(t, 1000)
	m = created(t, f)
	fine(t, f.Remove(path(1)))
	refused(t, api.ErrNone, m.Log(list(seqs(1))))
	refused(t, api.ErrBroken, m.Log(list(seqs(1))))
}

// P14.3
func TestRoll(t *testing.T) {
	f := disk(t, 100000)
	m := created(t, f)
	fine(t, m.Log(some()))
	for range 50 {
		fine(t, m.Log(list(logs(7, 9))))
	}
	was, size := said(m), m.Size()
	fine(t, m.Roll())
	if said(m) != was || m.File() != 20 || m.Next() != 21 || m.Size() >= size || m.Broken() {
		t.Error(tells(m))
	}
	lists(t, f, "CURRENT", "MANIFEST-000020")
	if string(read(t, f, now)) != "MANIFEST-000020\n" || len(read(t, f, path(20))) != m.Size() {
		t.Error(look(f))
	}
	// The same file as one that is opened would have.
	g := disk(t, 100000)
	fine(t, created(t, g).Log(append(some(), logs(7, 9))))
	opened(t, g)
	if string(read(t, f, path(20))) != string(read(t, g, path(20))) {
		t.Error("the file is another one")
	}
	if n := m.NewNumber(); n != 21 {
		t.Error(n)
	}
	fine(t, m.Roll(), m.Log(list(drops(7))))
	lists(t, f, "CURRENT", "MANIFEST-000022")
	if o := opened(t, f); said(o) != said(m) || o.File() != 23 {
		t.Error(tells(o))
	}
}

// P14.3, 14.3: whichever call errs, that is told, and nothing more is done; up to the Rename it goes on as before; with the SyncDir's it is broken.
func TestRollErrs(t *testing.T) {
	for _, litter := range []bool{false, true} {
		last := 9 // the Remove of the old file
		if litter {
			last = 11
		}
		for n := 1; n <= last; n++ {
			for want, err := range errs(n) {
				f, m, o := rolling(t, litter)
				was, size := said(m), m.Size()
				err(f)
				err(o.f)
				if n == last {
					want = api.OK
				}
				refused(t, want, m.Roll(), o.Roll())
				same(t, f, look(o.f))
				if tells(m) != tells(o) {
					t.Errorf("call %d: it tells\n%s\nwant\n%s", n, tells(m), tells(o))
				}
				if m.Next() != 21 || said(m) != was || m.Broken() != (n == last-1) || n < last && (m.File() != 1 || m.Size() != size) || n == last && m.File() != 20 {
					t.Errorf("call %d: %s", n, tells(m))
				}
				f.Fail(0, 0)
				f.Stop(0)
				if n == last-1 {
					still(t, f, m, func() { refused(t, api.ErrBroken, m.Roll(), m.Log(list(drops(2)))) })
					continue
				}
				fine(t, m.Log(list(drops(2))), m.Roll(), m.Log(list(seqs(99))))
				if m.File() != 21 || m.Next() != 22 {
					t.Errorf("call %d: %s", n, tells(m))
				}
				if o := opened(t, f); said(o) != said(m) {
					t.Errorf("call %d: %s, want %s", n, said(o), said(m))
				}
			}
		}
	}
}

// rolling is a manifest that may Roll, and its model.
func rolling(t *testing.T, litter bool) (*vfs.FS, *manifest.Manifest, *model) {
	t.Helper()
	f, g := disk(t, 100000), disk(t, 100000)
	m := created(t, f)
	o, e := modelCreate(g)
	fine(t, e, m.Log(some()), o.Log(some()))
	if litter {
		littered(t, f, 20)
		littered(t, g, 20)
	}
	return f, m, o
}

// P14.3: when the old file is gone already, that is no error.
func TestRollWithoutOld(t *testing.T) {
	f := disk(t, 1000)
	m := created(t, f)
	fine(t, f.Remove(path(1)), m.Roll(), m.Roll())
	lists(t, f, "CURRENT", "MANIFEST-000003")
}

// P14.3: what is said that fits no record any more can't go on in a further file; the disk stays.
func TestRollTooLong(t *testing.T) {
	f := disk(t, api.MaxDisk)
	m := created(t, f)
	fine(t, m.Log(list(makes(1, "a", 0), adds(1, row(1024, 1, 1024)...))))
	fine(t, m.Log(list(makes(2, "b", 0), adds(2, row(1024, 2000, 1024)...))))
	was, ahead := look(f), said(m)
	refused(t, api.ErrLong, m.Roll())
	same(t, f, was)
	if m.Next() != 3 || m.File() != 1 || m.Broken() || said(m) != ahead {
		t.Error(m.Next(), m.File(), m.Broken())
	}
	opens(t, "too long", f, dir, api.ErrLong)
	fine(t, m.Log(list(takes(1, gone(1, 5), gone(1, 6), gone(1, 7)), drops(1))), m.Roll())
	if m.File() != 3 {
		t.Error(m.File())
	}
}

// P14.3, P14.7
func TestNewNumber(t *testing.T) {
	f := disk(t, 1000)
	m := created(t, f)
	for n := uint64(2); n < 100; n++ {
		if m.Next() != n || m.NewNumber() != n || m.Next() != n+1 {
			t.Fatal(n, m.Next())
		}
	}
	was := look(f)
	m.NewNumber()
	same(t, f, was)
	still(t, f, m, func() { refused(t, api.ErrArg, m.Log(list(nexts(100)))) })
	fine(t, m.Log(list(nexts(101))), m.Log(list(nexts(200))))
	if m.NewNumber() != 200 || opened(t, f).Next() != 201 {
		t.Error(m.Next())
	}
}
