package manifest_test

import (
	"fmt"
	"math"
	"slices"
	"testing"

	"sediment/api"
	"sediment/manifest"
)

// Example 1
func TestExample(t *testing.T) {
	f := disk(t, 1000)
	m := created(t, f)
	if m.File() != 1 || m.Next() != 2 {
		t.Error(m.File(), m.Next())
	}
	fine(t, m.Log(list(makes(1, "a", 0))))
	o := opened(t, f)
	if l := o.Families(); len(l) != 1 || l[0].Family != 1 || l[0].Name != "a" || o.File() != 2 || o.Next() != 3 {
		t.Error(tells(o))
	}
}

// P14.4
func TestFamilies(t *testing.T) {
	m := created(t, disk(t, 10000))
	var want []uint32
	for _, n := range []uint32{9, 0, math.MaxUint32, 1 << 31, 1, 256, 3, 1<<31 - 1, 70000} {
		fine(t, m.Log(list(makes(n, fmt.Sprint("family ", n), int(n%2)), logs(n, uint64(n)+1))))
		want = append(want, n)
		slices.Sort(want)
		var got []uint32
		for _, x := range m.Families() {
			got = append(got, x.Family)
			one, e := m.State(x.Family)
			if fmt.Sprint(one) != fmt.Sprint(x) || e != api.OK || x.Name != fmt.Sprint("family ", x.Family) || x.How != int(x.Family%2) || x.Log != uint64(x.Family)+1 {
				t.Error(x, one, e)
			}
		}
		if !slices.Equal(got, want) {
			t.Errorf("%d, want %d", got, want)
		}
	}
	fine(t, m.Log(list(drops(256), drops(0))))
	for _, n := range []uint32{0, 2, 256, 255, math.MaxUint32 - 1} {
		if x, e := m.State(n); e != api.ErrNone || fmt.Sprint(x) != fmt.Sprint(api.State{}) {
			t.Error(n, x, e)
		}
	}
	if l := m.Families(); len(l) != 7 || l[0].Family != 1 || l[6].Family != math.MaxUint32 {
		t.Error(l)
	}
}

// P14.4: of all families, in all levels, each once.
func TestLive(t *testing.T) {
	m := created(t, disk(t, 10000))
	live := func(want ...uint64) {
		t.Helper()
		if l := m.Live(); !slices.Equal(l, want) {
			t.Errorf("%d, want %d", l, want)
		}
	}
	live()
	fine(t, m.Log(list(makes(1, "a", 0), makes(2, "b", 0))))
	live()
	fine(t, m.Log(list(adds(2, added(0, file(3, "a", "b")), added(6, file(math.MaxUint64, "a", "b")), added(2, file(100, "a", "b"))))))
	live(3, 100, math.MaxUint64)
	fine(t, m.Log(list(adds(1, added(0, file(3, "c", "d")), added(5, file(20, "a", "b")), added(5, file(0, "c", "d"))))))
	live(0, 3, 20, 100, math.MaxUint64)
	fine(t, m.Log(list(takes(2, gone(0, 3)))))
	live(0, 3, 20, 100, math.MaxUint64)
	fine(t, m.Log(list(drops(1))))
	live(100, math.MaxUint64)
}

// P14.4: what is told is nobody else's, what is handed in is not kept.
func TestNobodyElses(t *testing.T) {
	f := disk(t, 10000)
	m := created(t, f)
	l := append(make([]api.Edit, 0, 50), some()...)
	l[1].Gone = make([]api.Gone, 0, 9)
	l[1].Added = append(make([]api.Added, 0, 50), l[1].Added...)
	copied := slices.Clone(l)
	fine(t, m.Log(l))
	for i, e := range l {
		if fmt.Sprint(e) != fmt.Sprint(copied[i]) || len(l[:50][49].Added) != 0 || fmt.Sprint(l[:cap(l)][len(l)]) != fmt.Sprint(api.Edit{}) || l[1].Added[:50][4] != (api.Added{}) {
			t.Error("what was handed in was changed")
		}
	}
	want := tells(m)
	clear(l[1].Added)
	clear(l)
	if s := tells(m); s != want {
		t.Errorf("what was handed in is kept:\n%s\nwant\n%s", s, want)
	}
	spoil := func(x api.State) {
		for _, files := range x.Version.Levels {
			clear(files[:cap(files)])
		}
	}
	for _, n := range []uint32{2, 7} {
		x, _ := m.State(n)
		spoil(x)
	}
	for _, x := range m.Families() {
		spoil(x)
	}
	families, live := m.Families(), m.Live()
	clear(families[:cap(families)])
	clear(live[:cap(live)])
	if s := tells(m); s != want {
		t.Errorf("what was told is shared:\n%s\nwant\n%s", s, want)
	}
	// Nor do two answers share anything, nor what was told ahead and what is made behind.
	x, _ := m.State(7)
	y, _ := m.State(7)
	z := m.Families()
	told := fmt.Sprint(y, z)
	spoil(x)
	if fmt.Sprint(y, z) != told {
		t.Error("two answers share a list")
	}
	fine(t, m.Log(list(takes(7, gone(0, 5)), adds(7, added(0, file(15, "a", "k")), added(3, file(16, "r", "s"))))))
	if fmt.Sprint(y, z) != told {
		t.Error("an answer was changed")
	}
}

// P14.4: all that asks changes nothing.
func TestAsked(t *testing.T) {
	f := disk(t, 10000)
	m := created(t, f)
	fine(t, m.Log(some()))
	still(t, f, m, func() { tells(m) })
	// Nor is the disk asked: what was read is not read again.
	want := tells(m)
	fine(t, f.Remove(path(1)), f.Remove(now))
	if s := tells(m); s != want {
		t.Errorf("%s, want %s", s, want)
	}
}

// P14.4: Size is that of the file, however many blocks it has.
func TestSize(t *testing.T) {
	f := disk(t, 1<<20)
	m := created(t, f)
	r := chance(1)
	for i := range uint32(300) {
		fine(t, m.Log(list(makes(i, text(1+r.IntN(64)), r.IntN(2)))))
		if n, e := f.Size(path(1)); m.Size() != n || e != api.OK {
			t.Fatal(i, m.Size(), n, e)
		}
	}
	if m.Size() < 3*api.Block {
		t.Error(m.Size())
	}
	o := opened(t, f)
	if n, e := f.Size(path(2)); o.Size() != n || e != api.OK || said(o) != said(m) {
		t.Error(o.Size(), n, e)
	}
}

// Rules, "Ends": one that no call made ends, too, whatever is asked of it; it writes nothing.
func TestNoCallMadeIt(t *testing.T) {
	var m manifest.Manifest
	tells(&m)
	m.NewNumber()
	tells(&m)
	if m.Log(some()) == api.OK || m.Log(nil) == api.OK || m.Roll() == api.OK {
		t.Error("it writes")
	}
}
