package manifest_test

import (
	"fmt"
	"math/rand/v2"
	"slices"
	"testing"

	"sediment/api"
	"sediment/manifest"
	"sediment/vfs"
)

// session is a manifest, and what must be said behind a crash: what the Logs that answered OK made, or that with the one that was under way.
type session struct {
	f           *vfs.FS
	m           *manifest.Manifest
	sure, maybe saying
	told        []uint64 // by this manifest
	sealed      []uint64 // told ahead of a Log that answered OK
}

// says is what a manifest says by such a saying.
func says(s saying) string { return said(&model{s: s}) }

// log Logs, and notes what may come of that.
func (x *session) log(l []api.Edit) api.Errno {
	s, well := x.sure, true
	for _, e := range l {
		var why api.Errno
		if s, why = made(s, e); why != api.OK {
			well = false
			break
		}
	}
	broken := x.m.Broken()
	e := x.m.Log(l)
	if e == api.OK {
		x.sure = s
		x.sealed = append(x.sealed, x.told...)
	}
	if well && !broken {
		x.maybe = s
	}
	return e
}

// number is a NewNumber, which none may have told (P14.7).
func (x *session) number(t *testing.T) {
	t.Helper()
	n := x.m.NewNumber()
	if slices.Contains(x.told, n) || slices.Contains(x.sealed, n) || n == x.m.File() {
		t.Fatalf("NewNumber: %d was told already: %d, %d", n, x.told, x.sealed)
	}
	x.told = append(x.told, n)
}

// open opens what is there, which must be what is said (P14.5).
func (x *session) open(t *testing.T, what string) {
	t.Helper()
	m, e := manifest.Open(x.f, dir)
	if m == nil || e != api.OK {
		t.Fatalf("%s: Open: %d", what, e)
	}
	x.m, x.told = m, nil
	switch said(m) {
	case says(x.maybe):
		x.sure = x.maybe
	case says(x.sure):
		x.maybe = x.sure
	default:
		t.Fatalf("%s: it says %s, want %s, or %s", what, said(m), says(x.sure), says(x.maybe))
	}
	if m.Broken() || m.Next() <= m.File() {
		t.Fatalf("%s: %s", what, tells(m))
	}
}

// clone is the same on another disk; of the manifest there is nothing any more.
func (x *session) clone() *session {
	y := *x
	y.f, y.m = x.f.Clone(), nil
	return &y
}

// script is what is done in a session, call by call.
func script() []func(x *session) api.Errno {
	log := func(l ...api.Edit) func(x *session) api.Errno {
		return func(x *session) api.Errno { return x.log(l) }
	}
	roll := func(x *session) api.Errno { return x.m.Roll() }
	a, b := added(1, file(5, "a", "c")), added(0, file(6, "e", "g"))
	return []func(x *session) api.Errno{
		log(makes(1, "a", 0), adds(1, a)),
		log(makes(2, "b", 1), seqs(4), adds(1, b)),
		roll,
		log(takes(1, gone(1, 5)), logs(2, 7), both(30, 9)),
		roll,
		log(drops(1)),
		func(x *session) api.Errno {
			m, e := manifest.Open(x.f, dir)
			if e == api.OK {
				x.m = m
			}
			return e
		},
		log(makes(1, "again", 1), logs(1, 3)),
	}
}

// run makes a script up to the first call that errs; how many of the calls answered OK.
func (x *session) run(t *testing.T) int {
	t.Helper()
	for i, step := range script() {
		if e := step(x); e != api.OK {
			if e != api.ErrStop && e != api.ErrIO {
				t.Fatal(i, e)
			}
			return i
		}
	}
	return len(script())
}

// P14.5: wherever the disk stops or errs, and whatever a crash leaves, and wherever it stops again while it is opened.
func TestEveryCrash(t *testing.T) {
	ended := 0
	for n := 1; ended < 2; n++ {
		ended = 0
		for _, err := range errs(n) {
			x := &session{f: disk(t, 100000)}
			x.m = created(t, x.f)
			err(x.f)
			if x.run(t) == len(script()) {
				ended++
			}
			for names := range 5 {
				for _, keep := range []int{0, 3, 17, 1000000} {
					y := x.clone()
					y.f.Crash([]int{keep, 9}, []int{names})
					everyCrashOfOpen(t, fmt.Sprint("call ", n, ", ", names, " names, ", keep, " bytes"), y)
				}
			}
		}
	}
}

// everyCrashOfOpen opens a disk that stops at each call, and opens it again behind that.
func everyCrashOfOpen(t *testing.T, what string, x *session) {
	t.Helper()
	for n := 1; ; n++ {
		y := x.clone()
		y.f.Stop(n)
		_, e := manifest.Open(y.f, dir)
		for names := range 3 {
			z := y.clone()
			z.f.Crash([]int{7 * names}, []int{n, names})
			z.open(t, fmt.Sprint(what, ", call ", n, " of Open, ", names, " names"))
			if e := z.log(list(makes(9, "works", 0))); e != api.OK {
				t.Fatal(what, n, e)
			}
		}
		if e == api.OK {
			return
		}
	}
}

// P14.5: a crash within a Log leaves all of it, or nothing, however many bytes it leaves.
func TestAllOrNothing(t *testing.T) {
	l := list(makes(3, "three", 0), adds(3, row(30, 100, 150)...), drops(1), makes(4, "four", 1), seqs(9))
	for stop := 1; stop <= 3; stop++ { // within the Append, within the Sync, behind it
		x := &session{f: disk(t, 100000)}
		x.m = created(t, x.f)
		fine(t, x.log(list(makes(1, "one", 0), seqs(4))))
		x.f.Stop(stop)
		if e := x.log(l); (e == api.OK) != (stop == 3) {
			t.Error(e)
		}
		open, _ := x.f.Unsynced(path(1))
		for keep := range open + 1 {
			if keep > 100 && keep < open-100 && keep%11 > 0 {
				continue
			}
			y := x.clone()
			y.f.Crash([]int{keep}, nil)
			y.open(t, fmt.Sprint("keep ", keep))
			if all := stop == 3 || stop == 2 && keep == open; (said(y.m) == says(x.maybe)) != all {
				t.Fatalf("stop %d, %d of %d bytes: %s", stop, keep, open, said(y.m))
			}
		}
	}
}

// P14.5, P14.7: whatever is done, and wherever it crashes.
func TestWhateverCrashes(t *testing.T) {
	kept, lost := 0, 0
	for seed := range uint64(300) {
		r := chance(seed)
		x := &session{f: disk(t, []int{1 << 20, 3000}[r.IntN(2)])}
		x.m = created(t, x.f)
		for step := range 60 {
			what := fmt.Sprint("seed ", seed, ", step ", step)
			x.step(t, r)
			if r.IntN(8) > 0 {
				continue
			}
			for r.IntN(3) == 0 { // it is opened, but does not come to an end
				x.crash(r)
				x.f.Stop(1 + r.IntN(12))
				if r.IntN(2) == 0 {
					x.f.Fail(1+r.IntN(12), 1)
				}
				manifest.Open(x.f, dir)
			}
			x.f.Stop(0)
			x.f.Fail(0, 0)
			if r.IntN(4) > 0 {
				x.crash(r)
			}
			if x.f.Used() > 2000 { // without room for a further file it can't be opened
				x.f = roomier(x.f)
			}
			was, both := says(x.sure), says(x.sure) != says(x.maybe)
			x.open(t, what)
			if both && was == says(x.sure) {
				lost++
			} else if both {
				kept++
			}
		}
	}
	if kept < 20 || lost < 20 {
		t.Errorf("%d kept, %d lost", kept, lost)
	}
}

// roomier is the same disk behind a crash, with room.
func roomier(f *vfs.FS) *vfs.FS {
	g, _ := vfs.New(1 << 20)
	g.Mkdir(dir)
	for _, x := range f.Image() {
		g.Create(x.Path)
		g.Append(x.Path, x.B)
		g.Sync(x.Path)
	}
	g.SyncDir(dir)
	return g
}

func (x *session) crash(r *rand.Rand) { x.f.Crash(numbers(r), numbers(r)) }

// step does something in a session, by chance.
func (x *session) step(t *testing.T, r *rand.Rand) {
	t.Helper()
	switch r.IntN(12) {
	case 0:
		x.f.Fail(1+r.IntN(12), 1)
	case 1:
		x.f.Stop(1 + r.IntN(30))
	case 2:
		x.m.Roll()
	case 3, 4, 5:
		x.number(t)
	default:
		if e := x.log(anyEdits(r, x.m)); e == api.ErrCorrupt || e == api.ErrPanic {
			t.Fatal(e)
		}
	}
	if !x.m.Broken() && said(x.m) != says(x.sure) {
		t.Fatalf("it says %s, want %s", said(x.m), says(x.sure))
	}
}

// P14.6: opened, it says the same, but for Next and its file; that is so behind whatever was Logged.
func TestAgain(t *testing.T) {
	for seed := range uint64(150) {
		r := chance(seed)
		f := disk(t, 1<<20)
		m := created(t, f)
		for range 30 {
			if r.IntN(8) == 0 {
				fine(t, m.Roll())
			}
			m.Log(anyEdits(r, m))
		}
		o := opened(t, f)
		p := opened(t, f)
		if said(o) != said(m) || said(p) != said(m) || o.Next() < m.Next() || p.Next() <= o.Next() || o.File() < m.Next() || p.File() <= o.File() {
			t.Fatalf("seed %d: %s, %s, want %s", seed, tells(o), tells(p), tells(m))
		}
		lists(t, f, "CURRENT", name(p.File()))
	}
}

// P14.6: at most tables and the longest keys, in all levels, by both comparators.
func TestAgainMost(t *testing.T) {
	for how := range 2 {
		f := disk(t, api.MaxDisk)
		m := created(t, f)
		var l []api.Edit
		l = append(l, makes(1, text(64), how))
		for level := range api.Levels {
			for i := range 140 {
				user := fmt.Sprintf("%06d", i) + text(1018)
				l = append(l, adds(1, added(level, file(uint64(1000*level+i), user, user))))
			}
		}
		fine(t, m.Log(l))
		fine(t, m.Log(list(adds(1, added(0, file(9000, text(1024), text(1024))), added(6, api.File{Number: 1 << 63, Size: 1<<64 - 1, Entries: 1<<64 - 1, Ranges: 1<<64 - 1, Smallest: key(text(1024), api.MaxSeq), Largest: key(text(1024), 0)})))))
		if o := opened(t, f); said(o) != said(m) {
			t.Error(how)
		}
	}
}

// P14.7: a number that was told and Logged behind is never told again; one that is not Logged may be.
func TestNoNumberTwice(t *testing.T) {
	x := &session{f: disk(t, 1000)}
	x.m = created(t, x.f)
	for range 5 {
		for range 3 {
			x.number(t)
		}
		fine(t, x.log(list(seqs(x.m.Seq()+1))))
		x.number(t)
		fine(t, x.m.Roll())
		x.number(t)
		x.f.Crash(nil, nil)
		x.open(t, "again")
	}
}

// P6: at most 32 bits in a row within a record's fragment, behind its type, are told, whichever record it is.
func TestRots(t *testing.T) {
	f := disk(t, 10000)
	m := created(t, f)
	begins := []int{0}
	for _, l := range [][]api.Edit{some(), {logs(7, 8)}, {drops(2)}} {
		begins = append(begins, m.Size())
		fine(t, m.Log(l))
	}
	begins = append(begins, m.Size())
	for i, begin := range begins[1:] {
		for at := begins[i] + 7; at < begin; at++ {
			for bit := range 8 {
				g := f.Clone()
				fine(t, g.Flip(path(1), 8*at+bit))
				opens(t, fmt.Sprint("byte ", at, ", bit ", bit), g, dir, api.ErrCorrupt)
			}
			g, r := f.Clone(), chance(uint64(at))
			for bit := range min(32, 8*(begin-at)) {
				if bit == 0 || r.IntN(2) == 0 {
					fine(t, g.Flip(path(1), 8*at+bit))
				}
			}
			opens(t, fmt.Sprint("byte ", at, ", several bits"), g, dir, api.ErrCorrupt)
		}
	}
}

// From arguments alone: two manifests of one directory know of one another only what lies on the disk.
func TestTwo(t *testing.T) {
	f := disk(t, 1000)
	m := created(t, f)
	o := opened(t, f)
	fine(t, o.Log(list(makes(1, "a", 0))))
	if len(m.Families()) != 0 || m.Broken() || m.File() != 1 {
		t.Error(tells(m))
	}
	// The first one's file is gone.
	refused(t, api.ErrNone, m.Log(list(makes(1, "b", 0))))
	if !m.Broken() || o.Broken() {
		t.Error(m.Broken(), o.Broken())
	}
	fine(t, o.Log(list(logs(1, 3))))
}
