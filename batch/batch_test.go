package batch_test

import (
	"math/rand/v2"
	"slices"
	"testing"

	"sediment/api"
	"sediment/batch"
)

// P3.3
func TestZeroBatch(t *testing.T) {
	b := &batch.Batch{}
	shows(t, b, nil)
	if b.Size() != 12 {
		t.Error(b.Size())
	}
	answers(t, "Back", b.Back(), api.ErrNone)
	answers(t, "Pop", b.Pop(), api.ErrNone)
	answers(t, "Append of itself", b.Append(b), api.OK)
	answers(t, "Append of none", b.Append(&batch.Batch{}), api.OK)
	b.Clear()
	shows(t, b, nil)
}

// P3.3
func TestRecordsInOrder(t *testing.T) {
	b := &batch.Batch{}
	answers(t, "Put", b.Put(0, "a", "b"), api.OK)
	if b.Size() != 12+6 {
		t.Error(b.Size())
	}
	answers(t, "Delete", b.Delete(300, "c"), api.OK)
	answers(t, "DeleteRange", b.DeleteRange(2, "d", "e"), api.OK)
	answers(t, "Put of the same", b.Put(0, "a", "b"), api.OK)
	answers(t, "Put of another", b.Put(2, "a", ""), api.OK)
	answers(t, "Add", b.Add(api.Record{Family: 1<<32 - 1, Kind: api.Delete, Key: "f", Value: "plays no part"}), api.OK)
	want := []api.Record{put(0, "a", "b"), del(300, "c"), span(2, "d", "e"), put(0, "a", "b"), put(2, "a", ""), del(1<<32-1, "f")}
	shows(t, b, want)
	if l := b.Families(); !slices.Equal(l, []uint32{0, 2, 300, 1<<32 - 1}) {
		t.Error(l)
	}
	if l := b.Records(); !slices.Equal(l, want) {
		t.Error(l)
	}
}

// P3.3: what can't be is refused, and nothing is changed.
func TestAddRefuses(t *testing.T) {
	l := []api.Record{put(1, "a", "b"), del(2, "c")}
	b := filled(t, l...)
	for r, want := range wrongRecords() {
		answers(t, "Add", b.Add(r), want)
	}
	answers(t, "Put of a long key", b.Put(0, text(1025), ""), api.ErrLong)
	answers(t, "Put of a long value", b.Put(0, "", text(16385)), api.ErrLong)
	answers(t, "Delete of a long key", b.Delete(0, text(1025)), api.ErrLong)
	answers(t, "DeleteRange of a long begin", b.DeleteRange(0, text(1025), ""), api.ErrLong)
	answers(t, "DeleteRange of a long end", b.DeleteRange(0, "", text(1025)), api.ErrLong)
	shows(t, b, l)
	for _, r := range rightRecords() {
		answers(t, "Add", b.Add(r), api.OK)
	}
	answers(t, "Put of the longest", b.Put(0, text(1024), text(16384)), api.OK)
	answers(t, "Delete of the longest", b.Delete(0, text(1024)), api.OK)
	answers(t, "DeleteRange of the longest", b.DeleteRange(0, text(1024), text(1024)), api.OK)
	shows(t, b, append(append(l, rightRecords()...), put(0, text(1024), text(16384)), del(0, text(1024)), span(0, text(1024), text(1024))))
}

// P3.3
func TestMostRecords(t *testing.T) {
	b := filled(t, some(4095)...)
	answers(t, "the last one that fits", b.Put(7, "z", ""), api.OK)
	full := append(some(4095), put(7, "z", ""))
	answers(t, "Put", b.Put(0, "", ""), api.ErrLong)
	answers(t, "Delete", b.Delete(0, ""), api.ErrLong)
	answers(t, "DeleteRange", b.DeleteRange(0, "", ""), api.ErrLong)
	answers(t, "Add of what can't be", b.Add(api.Record{Kind: 3}), api.ErrArg)
	answers(t, "Append of one", b.Append(filled(t, some(1)...)), api.ErrLong)
	answers(t, "Append of itself", b.Append(b), api.ErrLong)
	answers(t, "Append of none", b.Append(&batch.Batch{}), api.OK)
	shows(t, b, full)
	if x, e := batch.Encode(1, b.Records()); len(x) != b.Size() || e != api.OK {
		t.Error(len(x), e)
	}
}

// P3.3: just as many bytes as may be, and one more.
func TestMostBytesOfABatch(t *testing.T) {
	l := widest(api.MaxBytes)
	last := l[len(l)-1]
	b := filled(t, l[:len(l)-1]...)
	wider := last
	wider.Value += "t"
	answers(t, "a byte too many", b.Add(wider), api.ErrLong)
	answers(t, "a byte too many, appended", b.Append(filled(t, wider)), api.ErrLong)
	shows(t, b, l[:len(l)-1])
	answers(t, "just enough", b.Add(last), api.OK)
	if b.Size() != 1<<22 {
		t.Error(b.Size())
	}
	answers(t, "one more", b.Delete(0, ""), api.ErrLong)
	answers(t, "what can't be", b.Add(api.Record{Kind: -1}), api.ErrArg)
	answers(t, "Append of itself", b.Append(b), api.ErrLong)
	shows(t, b, l)
	if x, e := batch.Encode(1, b.Records()); len(x) != 1<<22 || e != api.OK {
		t.Error(len(x), e)
	}
	answers(t, "Back", b.Back(), api.ErrNone)
	shows(t, b, l)
}

// P3.3, P3.7
func TestAppendLimits(t *testing.T) {
	half := filled(t, some(2048)...)
	half.Save()
	answers(t, "Append of itself", half.Append(half), api.OK)
	shows(t, half, some(4096))
	answers(t, "Append of itself again", half.Append(half), api.ErrLong)
	answers(t, "Back", half.Back(), api.OK)
	shows(t, half, some(2048))
	answers(t, "one more", half.Delete(0, "k"), api.OK)
	answers(t, "Append of itself, odd", half.Append(half), api.ErrLong)
	shows(t, half, some(2049))

	// Both have a head when each stands alone, and one together.
	l := widest(api.MaxBytes)
	a, b := filled(t, l[:100]...), filled(t, l[100:]...)
	answers(t, "Append up to the most bytes", a.Append(b), api.OK)
	shows(t, a, l)
	shows(t, b, l[100:])

	one := filled(t, put(0, "", "v"))
	answers(t, "Append to one", one.Append(a), api.ErrLong)
	answers(t, "Append of one", a.Append(one), api.ErrLong)
	shows(t, one, []api.Record{put(0, "", "v")})
	shows(t, a, l)
}

// P3.3, P3.7
func TestAppend(t *testing.T) {
	first, second := []api.Record{put(3, "a", "1"), del(1, "b")}, []api.Record{span(2, "c", "d"), put(1, "a", "2")}
	a, b := filled(t, first...), filled(t, second...)
	answers(t, "Append of nil", a.Append(nil), api.ErrArg)
	shows(t, a, first)
	b.Save()
	answers(t, "Append", a.Append(b), api.OK)
	both := append(slices.Clone(first), second...)
	shows(t, a, both)
	shows(t, b, second)
	answers(t, "Back: marks are not appended", a.Back(), api.ErrNone)
	answers(t, "Append of itself", a.Append(a), api.OK)
	shows(t, a, append(slices.Clone(both), both...))
	// From now on neither knows of the other.
	answers(t, "Put", b.Put(0, "x", "y"), api.OK)
	shows(t, a, append(slices.Clone(both), both...))
	a.Clear()
	shows(t, b, append(slices.Clone(second), put(0, "x", "y")))
	answers(t, "Back", b.Back(), api.OK)
	shows(t, b, second)
	full := filled(t, some(4096)...)
	answers(t, "Append of nil to a full one", full.Append(nil), api.ErrArg)
}

// P3.7: Append is all records, added one by one.
func TestAppendIsAddOneByOne(t *testing.T) {
	lists := manyRecords()
	for i, first := range lists {
		second := lists[(i*7+3)%len(lists)]
		if len(first)+len(second) > 4096 || bytesOf(first)+bytesOf(second)-12 > 1<<22 {
			a := filled(t, first...)
			answers(t, "Append of too many", a.Append(filled(t, second...)), api.ErrLong)
			shows(t, a, first)
			continue
		}
		a, c := filled(t, first...), filled(t, first...)
		answers(t, "Append", a.Append(filled(t, second...)), api.OK)
		for _, r := range second {
			answers(t, "Add", c.Add(r), api.OK)
		}
		shows(t, a, c.Records())
		shows(t, a, append(slices.Clone(first), second...))
	}
}

// P3.3
func TestClear(t *testing.T) {
	b := filled(t, put(1, "a", "b"))
	b.Save()
	answers(t, "Put", b.Put(2, "c", "d"), api.OK)
	b.Save()
	b.Clear()
	shows(t, b, nil)
	answers(t, "Back", b.Back(), api.ErrNone)
	answers(t, "Pop", b.Pop(), api.ErrNone)
	for _, r := range some(4096) {
		answers(t, "Add", b.Add(r), api.OK)
	}
	shows(t, b, some(4096))
	b.Clear()
	for _, r := range widest(api.MaxBytes) {
		answers(t, "Add", b.Add(r), api.OK)
	}
	shows(t, b, widest(api.MaxBytes))
}

// P3.4
func TestMarks(t *testing.T) {
	a, c, d := put(1, "a", "1"), del(2, "c"), span(3, "d", "e")
	b := filled(t, a)
	b.Save()
	answers(t, "Add", b.Add(c), api.OK)
	b.Save()
	answers(t, "Add", b.Add(d), api.OK)
	b.Save()
	shows(t, b, []api.Record{a, c, d})
	answers(t, "Back to where it is", b.Back(), api.OK)
	shows(t, b, []api.Record{a, c, d})
	answers(t, "Back", b.Back(), api.OK)
	shows(t, b, []api.Record{a, c})
	answers(t, "Add", b.Add(d), api.OK)
	answers(t, "Back to the first one", b.Back(), api.OK)
	shows(t, b, []api.Record{a})
	answers(t, "Back without marks", b.Back(), api.ErrNone)
	answers(t, "Pop without marks", b.Pop(), api.ErrNone)
	shows(t, b, []api.Record{a})
}

// P3.4
func TestPop(t *testing.T) {
	a, c, d := put(1, "a", "1"), del(2, "c"), span(3, "d", "e")
	b := &batch.Batch{}
	b.Save()
	answers(t, "Add", b.Add(a), api.OK)
	b.Save()
	answers(t, "Add", b.Add(c), api.OK)
	answers(t, "Pop", b.Pop(), api.OK)
	shows(t, b, []api.Record{a, c})
	answers(t, "Add", b.Add(d), api.OK)
	answers(t, "Back behind Pop", b.Back(), api.OK)
	shows(t, b, nil)
	answers(t, "Pop", b.Pop(), api.ErrNone)
	b.Save()
	b.Save()
	answers(t, "Pop", b.Pop(), api.OK)
	answers(t, "Pop", b.Pop(), api.OK)
	answers(t, "Pop", b.Pop(), api.ErrNone)
	answers(t, "Back", b.Back(), api.ErrNone)
}

// P3.6: whatever is added, also what is refused, and as much as fits.
func TestTakenBack(t *testing.T) {
	for _, was := range manyRecords() {
		for _, more := range manyRecords() {
			if len(was) > 100 && len(more) > 100 {
				continue
			}
			b := filled(t, was...)
			b.Save()
			for i, r := range more {
				b.Add(r)
				if i%5 == 2 {
					b.Save()
					b.Append(b)
					answers(t, "Pop", b.Pop(), api.OK)
				}
			}
			answers(t, "Back", b.Back(), api.OK)
			shows(t, b, was)
			answers(t, "Back", b.Back(), api.ErrNone)
		}
	}
}

// model is a batch as the chapter's words have it: what was there at each mark is kept whole.
type model struct {
	l     []api.Record
	marks [][]api.Record
}

func (m *model) add(l ...api.Record) api.Errno {
	next := append(slices.Clone(m.l), bare(l)...)
	if len(next) > 4096 || bytesOf(next) > 1<<22 {
		return api.ErrLong
	}
	m.l = next
	return api.OK
}

func (m *model) back() api.Errno {
	if len(m.marks) == 0 {
		return api.ErrNone
	}
	m.l = m.marks[len(m.marks)-1]
	return m.pop()
}

func (m *model) pop() api.Errno {
	if len(m.marks) == 0 {
		return api.ErrNone
	}
	m.marks = m.marks[:len(m.marks)-1]
	return api.OK
}

// both does one call on a batch and on its model: what each of them answered.
func both(r *rand.Rand, b, o *batch.Batch, m, n *model) (string, api.Errno, api.Errno) {
	x := anyRecord(r)
	switch r.IntN(16) {
	case 0, 1:
		return "Put", b.Put(x.Family, x.Key, x.Value[:min(len(x.Value), 1024)]), m.add(put(x.Family, x.Key, x.Value[:min(len(x.Value), 1024)]))
	case 2, 3:
		return "Delete", b.Delete(x.Family, x.Key), m.add(del(x.Family, x.Key))
	case 4, 5:
		end := x.Value[:min(len(x.Value), 1024)]
		return "DeleteRange", b.DeleteRange(x.Family, x.Key, end), m.add(span(x.Family, x.Key, end))
	case 6, 7:
		return "Add", b.Add(x), m.add(x)
	case 8:
		return "Append", b.Append(o), m.add(n.l...)
	case 9:
		return "Append of itself", b.Append(b), m.add(m.l...)
	case 10, 11:
		b.Save()
		m.marks = append(m.marks, m.l)
		return "Save", api.OK, api.OK
	case 12, 13:
		return "Back", b.Back(), m.back()
	case 14:
		return "Pop", b.Pop(), m.pop()
	}
	if r.IntN(8) == 0 {
		b.Clear()
		*m = model{}
	}
	return "Clear", api.OK, api.OK
}

// P3.3, P3.4, P3.6, P3.7: whatever is called, a batch is what the model is.
func TestModel(t *testing.T) {
	for seed := range uint64(60) {
		r := rand.New(rand.NewPCG(seed, 3))
		a, b := &batch.Batch{}, &batch.Batch{}
		m, n := &model{}, &model{}
		for i := range 100 {
			call, got, want := both(r, a, b, m, n)
			answers(t, call, got, want)
			shows(t, a, m.l)
			shows(t, b, n.l)
			if t.Failed() {
				t.Fatalf("seed %d, call %d: %s", seed, i, call)
			}
			if r.IntN(3) == 0 {
				a, b, m, n = b, a, n, m
			}
		}
	}
}

func TestListsAreNobodyElses(t *testing.T) {
	l := []api.Record{put(1, "a", "b"), del(2, "c"), span(3, "d", "e")}
	b := filled(t, l...)
	told, families := b.Records(), b.Families()
	clear(told[:cap(told)])
	clear(families[:cap(families)])
	shows(t, b, l)
	told, families = b.Records(), b.Families()
	b.Save()
	answers(t, "Put", b.Put(9, "x", "y"), api.OK)
	answers(t, "Back", b.Back(), api.OK)
	b.Clear()
	answers(t, "Put", b.Put(9, "x", "y"), api.OK)
	if !slices.Equal(told, l) || !slices.Equal(families, []uint32{1, 2, 3}) {
		t.Errorf("what was told is changed: %v, %v", told, families)
	}
	// What is put behind an answer is not in the batch's room.
	told = b.Records()
	_ = append(told, put(8, "mine", ""))
	answers(t, "Put", b.Put(7, "yours", ""), api.OK)
	shows(t, b, []api.Record{put(9, "x", "y"), put(7, "yours", "")})
}
