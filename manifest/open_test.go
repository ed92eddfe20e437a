package manifest_test

import (
	"fmt"
	"math"
	"strings"
	"testing"

	"sediment/api"
	"sediment/manifest"
	"sediment/vfs"
)

// some is edits that make families with tables, of numbers from 5 to 9.
func some() []api.Edit {
	e := adds(7, added(0, file(5, "a", "k")), added(0, file(6, "c", "d")), added(3, file(7, "x", "z")), added(3, file(8, "p", "q")))
	e.HasLog, e.Log = true, 44
	return list(makes(7, "seven", api.Bytewise), e, makes(2, "two", api.Reverse), adds(2, added(1, file(9, "z", "a"))), makes(math.MaxUint32, text(64), 0), both(20, 77))
}

// P14.2, P14.6, 14.3: all that is said stands in the first record of a further file.
func TestOpen(t *testing.T) {
	f := disk(t, 10000)
	m := created(t, f)
	fine(t, m.Log(some()))
	o := opened(t, f)
	lists(t, f, "CURRENT", "MANIFEST-000020")
	if b := read(t, f, now); string(b) != "MANIFEST-000020\n" {
		t.Errorf("CURRENT is %q", b)
	}
	two := makes(2, "two", api.Reverse)
	two.HasLog, two.Added = true, []api.Added{added(1, file(9, "z", "a"))}
	seven := makes(7, "seven", api.Bytewise)
	seven.HasLog, seven.Log = true, 44
	seven.Added = []api.Added{added(0, file(6, "c", "d")), added(0, file(5, "a", "k")), added(3, file(8, "p", "q")), added(3, file(7, "x", "z"))}
	last := makes(math.MaxUint32, text(64), 0)
	last.HasLog = true
	want := fragment(string(recordOf(two, seven, last, both(21, 77))))
	if b := read(t, f, path(20)); string(b) != want {
		t.Errorf("the file is %x, want %x", b, want)
	}
	if o.File() != 20 || o.Next() != 21 || o.Size() != len(want) || o.Broken() || said(o) != said(m) {
		t.Error(tells(o))
	}
	n, _ := f.Open(dir)
	if n != 1 { // that the old file is removed
		t.Errorf("%d open changes", n)
	}
}

// P14.2: again and again, also if nothing is Logged: each time a further file, and the one ahead is gone.
func TestOpenAgain(t *testing.T) {
	f := disk(t, 10000)
	was := said(created(t, f))
	for n := uint64(2); n < 50; n++ {
		m := opened(t, f)
		if m.File() != n || m.Next() != n+1 || said(m) != was {
			t.Fatal(n, tells(m))
		}
		lists(t, f, "CURRENT", name(n))
	}
}

// opens wants an error of Open, and a disk that stays.
func opens(t *testing.T, what string, f *vfs.FS, dir string, want api.Errno) {
	t.Helper()
	was := look(f)
	if m, e := manifest.Open(f, dir); m != nil || e != want {
		t.Errorf("%s: Open(%q): nil %t, %d, want %d", what, dir, m == nil, e, want)
	}
	same(t, f, was)
}

// P14.2: arguments that can't be, a directory without a manifest.
func TestOpenRefuses(t *testing.T) {
	f := disk(t, 1000)
	for _, d := range []string{dir, "none", ""} {
		if m, e := manifest.Open(nil, d); m != nil || e != api.ErrArg {
			t.Errorf("Open(nil, %q): %d", d, e)
		}
	}
	for _, d := range []string{"", "/", "d/", "d/e", " ", "\x7f", strings.Repeat("d", 33)} {
		opens(t, "no name", f, d, api.ErrArg)
	}
	for _, d := range []string{"none", "D", "dd", strings.Repeat("d", 32), dir} {
		opens(t, "nothing there", f, d, api.ErrNone)
	}
	puts(t, f, path(1), logOf(1, false, recordOf(both(2, 0))))
	puts(t, f, next, []byte("MANIFEST-000001\n"))
	opens(t, "no CURRENT", f, dir, api.ErrNone)
}

// P14.2: a CURRENT that names none.
func TestOpenWrongCurrent(t *testing.T) {
	f := forged(t, 1, logOf(1, false, recordOf(both(2, 0))))
	for _, s := range []string{
		"", "\n", "MANIFEST-000001", "MANIFEST-000001\n\n", "MANIFEST-000001\r\n", "MANIFEST-000001 \n", "MANIFEST-000001\x00", " MANIFEST-000001\n", "\nMANIFEST-000001\n", "MANIFEST-000001\nx", "MANIFEST-000001\n ",
		"MANIFEST-1\n", "MANIFEST-0000001\n", "MANIFEST-00001\n", "MANIFEST-\n", "MANIFEST\n", "manifest-000001\n", "d/MANIFEST-000001\n", "1\n", "000001\n", "MANIFEST-+00001\n", "MANIFEST-00000a\n", "MANIFEST-18446744073709551616\n",
		"MANIFEST-000001\nMANIFEST-000001\n", strings.Repeat("\n", 100000), strings.Repeat("MANIFEST-000001", 10000) + "\n", "CURRENT\n",
	} {
		puts(t, f, now, []byte(s))
		opens(t, fmt.Sprintf("%.30q", s), f, dir, api.ErrCorrupt)
	}
	// One that is named, but is not there.
	for _, n := range []uint64{0, 2, 999999, 1000000, math.MaxUint64} {
		puts(t, f, now, []byte(name(n)+"\n"))
		opens(t, name(n), f, dir, api.ErrNone)
	}
	puts(t, f, now, []byte("MANIFEST-000001\n"))
	opened(t, f)
}

// P14.2: a file that is no log, or whose records are none.
func TestOpenNoRecords(t *testing.T) {
	good := recordOf(both(2, 0))
	more := recordOf(makes(1, "a", 0), both(2, 0))
	for what, b := range map[string][]byte{
		"empty": nil, "noughts": make([]byte, 5000), "one byte": {1}, "text": []byte(strings.Repeat("rubbish", 1000)), "torn within the first one": logOf(1, false, good)[:14],
		"an empty record": logOf(1, false, nil), "an empty record behind": logOf(1, false, good, nil),
		"a record that ends too early": logOf(1, false, good[:7]), "one that ends too early behind": logOf(1, false, good, good[:1]),
		"something behind": logOf(1, false, append([]byte{}, append(good, 0)...)), "an edit less": logOf(1, false, append([]byte{3}, more[1:]...)), "an edit more": logOf(1, false, append([]byte{1}, more[1:]...)),
		"a number too long": logOf(1, false, append([]byte{0x81, 0}, good[1:]...)), "a great number": logOf(1, false, []byte("\xff\xff\xff\xff\xff\xff\xff\xff\xff\x01\x02\x01\x00")), "a number too great": logOf(1, false, []byte("\xff\xff\xff\xff\xff\xff\xff\xff\xff\x02")),
		"a length too long": logOf(1, false, []byte("\x01\x82\x00\x01\x00")), "a length too great": logOf(1, false, []byte("\x01\x03\x01\x00")), "a length of most": logOf(1, false, []byte("\x01\xff\xff\xff\xff\xff\xff\xff\xff\xff\x01\x01\x00")),
		"a length too little": logOf(1, false, []byte("\x01\x01\x01\x00")), "an edit without bytes": logOf(1, false, []byte("\x01\x00")), "an edit that is none": logOf(1, false, []byte("\x01\x02\x02\x00")),
		"no length": logOf(1, false, []byte("\x01")), "a part twice": logOf(1, false, []byte("\x01\x06\x01\x00\x05\x01\x05\x01")),
		"spoilt": append(logOf(1, false, good), "rubbish that is spoilt"...), "an older log": append(logOf(1, true, good), logOf(7, true, good)...), "of another log": logOf(2, true, good),
	} {
		opens(t, what, forged(t, 1, b), dir, api.ErrCorrupt)
	}
}

// P14.2: edits that can't be made, one behind the other, on no families, Next 0 and Seq 0.
func TestOpenWrongEdits(t *testing.T) {
	a, b := makes(1, "a", 0), adds(1, added(1, file(5, "a", "c")))
	for what, l := range map[string][]api.Edit{
		"made twice": {a, makes(1, "b", 1)}, "none": {logs(1, 5)}, "dropped": {a, drops(1), drops(1)}, "none to drop": {drops(0)}, "none for tables": {adds(0, added(1, file(5, "a", "c")))},
		"none to go": {a, takes(1, gone(0, 5))}, "there": {a, b, b}, "over one another": {a, b, adds(1, added(1, file(6, "c", "d")))}, "the wrong way": {makes(1, "a", 1), b},
		"Next falls": {nexts(9), nexts(8)}, "Next too great": {nexts(1<<62 + 1)}, "Next of most": {nexts(math.MaxUint64)}, "Seq falls": {seqs(9), seqs(8)}, "Seq too great": {seqs(api.MaxSeq + 1)}, "Seq of most": {seqs(math.MaxUint64)},
	} {
		opens(t, what, forged(t, 1, logOf(1, false, recordOf(l...))), dir, api.ErrCorrupt)
		// Each in a record of its own, and one that is well ahead.
		records := [][]byte{recordOf(both(2, 0))}
		for _, e := range l {
			records = append(records, recordOf(e))
		}
		opens(t, what+", in several", forged(t, 1, logOf(1, false, records...)), dir, api.ErrCorrupt)
	}
}

// P14.2: what other files may say, too: records of any edits that can be made, torn behind.
func TestOpenForged(t *testing.T) {
	a, b := makes(1, "a", 0), adds(1, added(1, file(5, "a", "c")))
	for what, x := range map[string]struct {
		number, file uint64
		b            []byte
		want         string
	}{
		"nothing said":       {1, 2, logOf(1, false, []byte{0}), "[] [] 0"},
		"a low Next":         {9, 10, logOf(9, false, recordOf(both(0, 3))), "[] [] 3"},
		"Next is the number": {9, 10, logOf(9, false, recordOf(both(9, 3))), "[] [] 3"},
		"Next is one more":   {9, 10, logOf(9, false, recordOf(both(10, 3))), "[] [] 3"},
		"Next is two more":   {9, 11, logOf(9, false, recordOf(both(11, 3))), "[] [] 3"},
		"the number 0":       {0, 1, logOf(0, false, recordOf(seqs(3))), "[] [] 3"},
		"a great number":     {1 << 33, 1<<33 + 1, logOf(0, false, recordOf(seqs(3))), "[] [] 3"},
		"the most":           {1, 1<<62 - 2, logOf(1, false, recordOf(both(1<<62-2, api.MaxSeq))), "[] [] 72057594037927935"},
		"Next alone":         {1, 7, logOf(1, false, recordOf(nexts(7))), "[] [] 0"},
		"many records":       {1, 2, logOf(1, false, recordOf(a), []byte{0}, recordOf(b, seqs(1)), recordOf(seqs(1)), recordOf(seqs(1), seqs(2))), "[{1 a 0 0 " + fmt.Sprint(at(1, b.Added[0].File)) + "}] [5] 2"},
		"made and dropped":   {1, 2, logOf(1, false, recordOf(a, b, drops(1), makes(1, "b", 1))), "[{1 b 1 0 " + fmt.Sprint(api.Version{}) + "}] [] 0"},
		"noughts behind":     {1, 2, append(logOf(1, false, recordOf(seqs(4))), make([]byte, 9000)...), "[] [] 4"},
		"torn":               {1, 2, append(logOf(1, false, recordOf(seqs(4))), 1), "[] [] 4"},
		"recycled":           {5, 6, logOf(5, true, recordOf(seqs(4))), "[] [] 4"},
		"recycled, low bits": {1<<32 + 5, 1<<32 + 6, logOf(5, true, recordOf(seqs(4))), "[] [] 4"},
	} {
		f := forged(t, x.number, x.b)
		m := opened(t, f)
		if said(m) != x.want || m.File() != x.file || m.Next() != x.file+1 {
			t.Errorf("%s: %s, File %d, Next %d, want %s, %d", what, said(m), m.File(), m.Next(), x.want, x.file)
		}
		lists(t, f, "CURRENT", name(x.file))
		if o := opened(t, f); said(o) != x.want {
			t.Errorf("%s, again: %s, want %s", what, said(o), x.want)
		}
	}
}

// P14.2: behind the greatest numbers there is none that a further file could have.
func TestOpenGreatest(t *testing.T) {
	for _, n := range []uint64{math.MaxUint64, math.MaxUint64 - 1} {
		opens(t, name(n), forged(t, n, logOf(uint32(n), false, recordOf(both(2, 0)))), dir, api.ErrCorrupt)
	}
	n := uint64(math.MaxUint64 - 2)
	if m := opened(t, forged(t, n, logOf(uint32(n), false, recordOf(both(2, 0))))); m.File() != n+1 || m.Next() != n+2 {
		t.Error(tells(m))
	}
}

// P14.2: of a file that was cut off anywhere the records that are whole count, unless there is none; what is told is what they make.
func TestOpenTorn(t *testing.T) {
	f := disk(t, 100000)
	m := created(t, f)
	ends, wants := []int{m.Size()}, []string{said(m)}
	for i, l := range [][]api.Edit{some(), {adds(7, row(40, 100, 120)...)}, {logs(7, 45)}, {drops(7), seqs(78)}} {
		fine(t, m.Log(l))
		if i > 0 && m.Size() <= ends[i] {
			t.Error("no bytes were written")
		}
		ends, wants = append(ends, m.Size()), append(wants, said(m))
	}
	b := read(t, f, path(1))
	for cut := range len(b) + 1 {
		if cut > ends[1]+100 && cut < ends[2]-100 && cut%61 != 0 {
			continue // within one great record
		}
		g := forged(t, 1, b[:cut])
		if cut < ends[0] {
			opens(t, fmt.Sprint("cut at ", cut), g, dir, api.ErrCorrupt)
			continue
		}
		i := 0
		for i+1 < len(ends) && ends[i+1] <= cut {
			i++
		}
		if o := opened(t, g); said(o) != wants[i] {
			t.Errorf("cut at %d: %s, want %s", cut, said(o), wants[i])
		}
	}
}

// P14.2, 14.3: whichever call errs, that is told, and nothing more is done; but the last one's error is none.
func TestOpenErrs(t *testing.T) {
	for _, litter := range []bool{false, true} {
		last := 9 // the Remove of the old file
		if litter {
			last = 11
		}
		for n := 1; n <= last+1; n++ {
			for want, err := range errs(n) {
				f := disk(t, 10000)
				fine(t, created(t, f).Log(some()))
				if litter {
					littered(t, f, 20)
				}
				g := f.Clone()
				err(f)
				err(g)
				m, e := manifest.Open(f, dir)
				_, e2 := modelOpen(g)
				if n >= last {
					want = api.OK
				}
				if e != want || e2 != want || (m != nil) != (want == api.OK) {
					t.Errorf("litter %t, call %d: nil %t, %d, %d, want %d", litter, n, m == nil, e, e2, want)
				}
				same(t, f, look(g))
				l := []string{"CURRENT", "MANIFEST-000020"}
				if n == last {
					l = append(l, "MANIFEST-000001") // it could not be removed
				}
				if litter {
					l = append(l, "000003.sst")
				}
				if n >= last {
					lists(t, f, l...)
				}
			}
		}
	}
}

// P6: whatever bytes lie there Open ends, and answers a manifest or an error.
func TestOpenWhatever(t *testing.T) {
	f := disk(t, 100000)
	m := created(t, f)
	fine(t, m.Log(some()), m.Log(list(adds(7, row(40, 100, 120)...))))
	b := read(t, f, path(1))
	done := map[api.Errno]int{}
	for seed := range uint64(3000) {
		r := chance(seed)
		c := append([]byte{}, b...)
		for range 1 + r.IntN(3) {
			switch r.IntN(3) {
			case 0:
				c[r.IntN(len(c))] ^= 1 << r.IntN(8)
			case 1:
				c = c[:1+r.IntN(len(c))]
			case 2:
				c = append(c, c[r.IntN(len(c)):]...)
			}
		}
		m, e := manifest.Open(forged(t, 1, c), dir)
		if (m == nil) == (e == api.OK) || e != api.OK && e != api.ErrCorrupt {
			t.Errorf("seed %d: nil %t, %d", seed, m == nil, e)
		}
		done[e]++
	}
	// The same of a record's bytes, with sums that are right.
	x := recordOf(append(some(), both(30, 90))...)
	for seed := range uint64(5000) {
		r := chance(seed)
		c := append([]byte{}, x...)
		for range 1 + r.IntN(2) {
			c[r.IntN(len(c))] = byte(r.IntN(256))
		}
		m, e := manifest.Open(forged(t, 1, logOf(1, false, c)), dir)
		if (m == nil) == (e == api.OK) || e != api.OK && e != api.ErrCorrupt {
			t.Errorf("seed %d: nil %t, %d", seed, m == nil, e)
		}
		done[e]++
	}
	if done[api.OK] < 100 || done[api.ErrCorrupt] < 100 {
		t.Error(done)
	}
}
