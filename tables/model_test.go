package tables_test

import (
	"fmt"
	"math/rand/v2"
	"slices"
	"strings"
	"testing"

	"sediment/api"
	"sediment/sstable"
	"sediment/vfs"
)

// tabler is what tables and their model are both.
type tabler interface {
	Write(number uint64, o api.TableOptions, l []api.Entry, tombs []api.Tombstone) (api.File, api.Errno)
	Add(number uint64, b []byte) (api.File, api.Errno)
	Remove(number uint64) api.Errno
	Get(number uint64) (*sstable.Table, int, api.Errno)
	Free(pin int) api.Errno
	List() ([]uint64, api.Errno)
	Kept() int
}

// item is a table of the model that was read: its number, its pins, when it was let go last.
type item struct {
	number uint64
	table  *sstable.Table
	pins   []int
	in     bool
	since  int
}

// model is tables in the chapter's words: on a disk of its own, with what is open in a list that is gone through.
type model struct {
	f         *vfs.FS
	how, room int
	items     []*item
	given     int
	now       int
}

func (m *model) Write(number uint64, o api.TableOptions, l []api.Entry, tombs []api.Tombstone) (api.File, api.Errno) {
	if o.How != m.how {
		return api.File{}, api.ErrArg
	}
	b, e := sstable.Build(o, l, tombs)
	if e != api.OK {
		return api.File{}, e
	}
	return m.Add(number, b)
}

func (m *model) Add(number uint64, b []byte) (api.File, api.Errno) {
	x, e := sstable.Open(m.how, b)
	if e != api.OK {
		return api.File{}, e
	}
	file, is := x.File(number)
	if !is {
		return api.File{}, api.ErrNone
	}
	p := path(number)
	if e := m.f.Create(p); e != api.OK {
		return api.File{}, e
	}
	if e = m.f.Append(p, b); e == api.OK {
		if e = m.f.Sync(p); e == api.OK {
			e = m.f.SyncDir(dir)
		}
	}
	if e != api.OK {
		m.f.Remove(p)
		return api.File{}, e
	}
	return file, api.OK
}

func (m *model) Remove(number uint64) api.Errno {
	if e := m.f.Remove(path(number)); e != api.OK {
		return e
	}
	if x := m.find(number); x != nil {
		x.in = false
		m.sweep()
	}
	return m.f.SyncDir(dir)
}

func (m *model) find(number uint64) *item {
	for _, x := range m.items {
		if x.number == number && x.in {
			return x
		}
	}
	return nil
}

// sweep lets those go that are neither open nor pinned.
func (m *model) sweep() {
	m.items = slices.DeleteFunc(m.items, func(x *item) bool { return !x.in && len(x.pins) == 0 })
}

// shrink lets those go that are not pinned, the one that was used longest ago first, until there are at most so many.
func (m *model) shrink(many int) {
	for len(m.items) > many {
		var oldest *item
		for _, x := range m.items {
			if len(x.pins) == 0 && (oldest == nil || x.since < oldest.since) {
				oldest = x
			}
		}
		if oldest == nil {
			return
		}
		oldest.in = false
		m.sweep()
	}
}

func (m *model) Get(number uint64) (*sstable.Table, int, api.Errno) {
	x := m.find(number)
	if x == nil {
		b, e := m.f.Read(path(number))
		if e != api.OK {
			return nil, 0, e
		}
		y, e := sstable.Open(m.how, b)
		if e != api.OK {
			return nil, 0, e
		}
		m.shrink(m.room - 1)
		x = &item{number: number, table: y, in: true}
		m.items = append(m.items, x)
	}
	m.given++
	x.pins = append(x.pins, m.given)
	return x.table, m.given, api.OK
}

func (m *model) Free(pin int) api.Errno {
	for _, x := range m.items {
		i := slices.Index(x.pins, pin)
		if i < 0 {
			continue
		}
		x.pins = slices.Delete(x.pins, i, i+1)
		m.now++
		x.since = m.now
		m.sweep()
		m.shrink(m.room)
		return api.OK
	}
	return api.ErrPin
}

func (m *model) List() ([]uint64, api.Errno) {
	var l []uint64
	names, e := m.f.List(dir)
	for n := range uint64(10) {
		if slices.Contains(names, strings.TrimPrefix(path(n), dir+"/")) {
			l = append(l, n)
		}
	}
	return l, e
}

func (m *model) Kept() int {
	n := 0
	for _, x := range m.items {
		if x.in {
			n++
		}
	}
	return n
}

// act does something with tables and their disk, by chance, so that the same seed does the same with others: what was answered.
func act(x tabler, f *vfs.FS, r *rand.Rand, how, pins int) string {
	number := uint64(r.IntN(6))
	switch r.IntN(24) {
	case 0:
		f.Fail(r.IntN(7), r.IntN(4))
		return "fail"
	case 1:
		f.Stop(r.IntN(20))
		return "stop"
	case 2:
		f.Crash(numbers(r), numbers(r))
		return "crash"
	case 3:
		return fmt.Sprint("flip ", number, f.Flip(path(number), r.IntN(500)))
	case 4:
		return fmt.Sprint("cut ", number, f.Cut(path(number), r.IntN(300)))
	case 5:
		return fmt.Sprint("gone ", number, f.Remove(path(number)))
	case 6:
		return fmt.Sprint("renamed ", number, f.Rename(path(number), path(uint64(r.IntN(6)))))
	case 7, 8:
		return fmt.Sprint("remove ", number, x.Remove(number))
	case 9, 10, 11:
		pin := r.IntN(pins+3) - 1
		return fmt.Sprint("free ", pin, x.Free(pin))
	case 12, 13, 14, 15, 16, 17:
		y, pin, e := x.Get(number)
		return fmt.Sprint("get ", number, told(how, y), pin, e)
	}
	return take(x, r, how, number)
}

// take writes a table, or adds one; now and then one that can't be.
func take(x tabler, r *rand.Rand, how int, number uint64) string {
	o := small(how)
	if r.IntN(10) == 0 {
		o = []api.TableOptions{{How: how}, small(1 - how), small(7)}[r.IntN(3)]
	}
	l, tombs := some(r, how)
	if r.IntN(2) == 0 {
		y, e := x.Write(number, o, l, tombs)
		return fmt.Sprint("write ", number, y, e)
	}
	b, _ := sstable.Build(o, l, tombs)
	if r.IntN(10) == 0 && len(b) > 0 {
		b[r.IntN(len(b))]++
	}
	y, e := x.Add(number, b)
	return fmt.Sprint("add ", number, y, e)
}

// All promises: whatever is done, and whatever the disk does, tables tell and leave on the disk what their model does.
func TestAsTheModel(t *testing.T) {
	for seed := range uint64(400) {
		r := chance(seed)
		how, room, quota := r.IntN(2), 1+r.IntN(4), 1<<20
		if r.IntN(4) == 0 {
			quota = 1500
		}
		f, g := disk(t, quota), disk(t, quota)
		x, m := fresh(t, f, how, room), &model{f: g, how: how, room: room}
		for step := range 120 {
			again, given := r.Uint64(), m.given
			did := act(x, f, chance(again), how, given)
			if want := act(m, g, chance(again), how, given); did != want {
				t.Fatalf("seed %d, step %d: %s, want %s", seed, step, did, want)
			}
			if x.Kept() != m.Kept() {
				t.Fatalf("seed %d, step %d: behind %s: Kept: %d, want %d", seed, step, did, x.Kept(), m.Kept())
			}
			l, e := x.List()
			if want, e2 := m.List(); !slices.Equal(l, want) || e != e2 {
				t.Fatalf("seed %d, step %d: behind %s: List: %v, %d, want %v, %d", seed, step, did, l, e, want, e2)
			}
			if got, want := look(f), look(g); got != want {
				t.Fatalf("seed %d, step %d: behind %s:\n%s\nwant\n%s", seed, step, did, got, want)
			}
		}
	}
}

// From arguments alone: two Tables of one directory know of one another only what lies on the disk.
func TestTwo(t *testing.T) {
	f := disk(t, 1<<20)
	x, y := fresh(t, f, api.Bytewise, 2), fresh(t, f, api.Bytewise, 2)
	writes(t, x, api.Bytewise, 1, 2)
	uses(t, y, 1, 2)
	kept(t, x, 0)
	p := gets(t, x, 1)
	refused(t, api.ErrPin, y.Free(p+5))
	fine(t, x.Remove(1))
	lacks(t, x, 1, api.ErrNone)
	uses(t, y, 1)
	kept(t, x, 0)
	kept(t, y, 2)
	refused(t, api.ErrNone, y.Remove(1))
	lists(t, y, 2)
}
