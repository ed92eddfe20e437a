package useriter_test

import (
	"fmt"
	"iter"
	"slices"
	"testing"

	"sediment/api"
	"sediment/memtable"
	"sediment/merge"
	"sediment/sstable"
)

// probe is a source that counts how often it is asked and how many entries it told behind the last ask.
type probe struct {
	merge.Source
	asks, told int
}

func (p *probe) note(l iter.Seq[api.Entry]) iter.Seq[api.Entry] {
	return func(yield func(api.Entry) bool) {
		p.asks++
		p.told = 0
		for e := range l {
			if p.told++; !yield(e) {
				return
			}
		}
	}
}

func (p *probe) All(from api.Key) iter.Seq[api.Entry]  { return p.note(p.Source.All(from)) }
func (p *probe) Back(from api.Key) iter.Seq[api.Entry] { return p.note(p.Source.Back(from)) }

// mute is a source that answers no list at all.
type mute struct{}

func (mute) All(api.Key) iter.Seq[api.Entry]  { return nil }
func (mute) Back(api.Key) iter.Seq[api.Entry] { return nil }

// wild is a source that tells its entries as they lie, whatever it is asked.
type wild struct{ l []api.Entry }

func (w wild) All(api.Key) iter.Seq[api.Entry]  { return slices.Values(w.l) }
func (w wild) Back(api.Key) iter.Seq[api.Entry] { return slices.Values(w.l) }

// moody is a source that panics when it is asked once more than it may be.
type moody struct {
	merge.Source
	asks *int
}

func (m moody) All(from api.Key) iter.Seq[api.Entry] {
	if *m.asks--; *m.asks < 0 {
		panic("moody")
	}
	return m.Source.All(from)
}

func (m moody) Back(from api.Key) iter.Seq[api.Entry] {
	m.All(from)
	return m.Source.Back(from)
}

// A source is asked only when it is gone through, and read no further than is needed to tell what is seen.
func TestReadsNoFurther(t *testing.T) {
	for _, how := range hows() {
		var l []api.Entry
		for i := range 300 {
			l = append(l, put(fmt.Sprintf("%03d", i), 3, "x"), put(fmt.Sprintf("%03d", i), 2, "y"))
		}
		p := &probe{Source: list(t, how, l...)}
		it := fresh(t, how, p, nil, 3, span("050", "250"))
		if how == api.Reverse {
			it = fresh(t, how, p, nil, 3, span("250", "050"))
		}
		it.All()
		it.Back()
		it.Close()
		if p.asks != 0 {
			t.Errorf("asked %d times ahead", p.asks)
		}
		for _, m := range []struct {
			move func() bool
			most int
		}{{it.First, 1}, {it.Next, 1}, {it.Next, 1}, {it.Prev, 3}, {it.Prev, 3}, {it.Last, 3}, {it.Prev, 3}, {it.Next, 1}, {func() bool { return it.Seek("100") }, 1}, {func() bool { return it.Before("100") }, 3}, {func() bool { return len(some(it.All(), 1)) == 1 }, 1}, {func() bool { return len(some(it.All(), 9)) == 9 }, 17}, {func() bool { _, is := it.Get("120"); return is }, 1}} {
			if !m.move() || p.told > m.most {
				t.Errorf("told %d entries, want at most %d", p.told, m.most)
			}
		}
		for _, m := range []func() bool{func() bool { return it.Last() && it.Next() }, func() bool { return it.First() && it.Prev() }} {
			if m() || p.told > 1 {
				t.Errorf("told %d entries beyond the bounds", p.told)
			}
		}
		if _, is := it.Get("120-"); is || p.told > 1 {
			t.Errorf("told %d entries for a key that is not there", p.told)
		}
	}
}

// A key with many entries is not gone through again and again: what is later than the view is passed over by Get, and what is earlier by Next.
func TestManyEntriesOfAKey(t *testing.T) {
	var l []api.Entry
	for seq := range uint64(20000) {
		l = append(l, put("k", seq, "x"))
	}
	p := &probe{Source: list(t, api.Bytewise, append(l, put("l", 1, "y"), put("j", 1, "y"))...)}
	it := fresh(t, api.Bytewise, p, nil, 10, api.Bounds{})
	has(t, it, "k", "x")
	if p.told > 1 {
		t.Errorf("Get: told %d", p.told)
	}
	at(t, "Seek", it.Seek("k"), it, pair{"k", "x"})
	at(t, "Next", it.Next(), it, pair{"l", "y"})
	if p.told > 1 {
		t.Errorf("Next: told %d", p.told)
	}
	at(t, "Before", it.Before("k"), it, pair{"k", "x"})
	at(t, "Prev", it.Prev(), it, pair{"j", "y"})
	if p.told > 1 {
		t.Errorf("Prev: told %d", p.told)
	}
}

// Ends: a going through of many keys, back and forth, over a stretch that was deleted, takes no more than its steps.
func TestManyKeys(t *testing.T) {
	for _, how := range hows() {
		var l []api.Entry
		for i := range 30000 {
			l = append(l, put(fmt.Sprintf("%06d", i), uint64(i), "x"))
		}
		parts := make([]merge.Source, 10)
		for i := range parts {
			parts[i] = list(t, how, l[i*3000:(i+1)*3000]...)
		}
		it := fresh(t, how, merge.Merged(how, parts), []api.Tombstone{tomb("010000", "020000", 50000), tomb("020000", "010000", 50000)}, 60000, api.Bounds{})
		n := 0
		for is := it.First(); is; is = it.Next() {
			n++
		}
		for is := it.Last(); is; is = it.Prev() {
			n++
		}
		if n != 40000 {
			t.Errorf("%d keys", n)
		}
	}
}

// A source that is not sorted, or does not hear from where on, is told as it may be: nothing panics, and each call ends.
func TestWildSources(t *testing.T) {
	l := []api.Entry{put("c", 3, "x"), put("a", 9, "x"), put("a", 2, "y"), del("a", 1), put("c", 3, "z"), put("b", 3, "x")}
	for _, how := range hows() {
		for _, b := range []api.Bounds{{}, span("a", "c"), span("c", "a")} {
			it := fresh(t, how, wild{l}, []api.Tombstone{tomb("a", "b", 5)}, 4, b)
			for _, move := range []func() bool{it.First, it.Next, it.Next, it.Next, it.Next, it.Last, it.Prev, it.Prev, it.Prev, it.Prev} {
				found := move()
				if it.Valid() != found || !found && it.Key()+it.Value() != "" {
					t.Errorf("told %t, stands %t", found, it.Valid())
				}
			}
			it.Seek("b")
			it.Before("b")
			pairs(it.All())
			pairs(it.Back())
			if v, is := it.Get("q"); is || v != "" {
				t.Errorf("Get: %q", v)
			}
		}
	}
}

// A source that panics does so through the call, and the iterator stands where it stood.
func TestSourceThatPanics(t *testing.T) {
	asks := 1
	it := fresh(t, api.Bytewise, moody{list(t, api.Bytewise, put("a", 1, "A"), put("b", 1, "B")), &asks}, nil, 1, api.Bounds{})
	at(t, "First", it.First(), it, pair{"a", "A"})
	for _, call := range []func(){func() { it.First() }, func() { it.Last() }, func() { it.Next() }, func() { it.Prev() }, func() { it.Seek("b") }, func() { it.Before("b") }, func() { it.Get("b") }, func() { pairs(it.All()) }, func() { pairs(it.Back()) }} {
		if p := panics(call); p != "moody" {
			t.Errorf("%q", p)
		}
		at(t, "still", true, it, pair{"a", "A"})
	}
	asks = 9
	at(t, "Next", it.Next(), it, pair{"b", "B"})
}

// One who is told and panics does so through All and Back.
func TestOneWhoIsToldPanics(t *testing.T) {
	it := few(t, api.Bytewise)
	for _, l := range []iter.Seq2[string, string]{it.All(), it.Back()} {
		if p := panics(func() {
			for k := range l {
				panic(k)
			}
		}); p == "" {
			t.Error("no panic")
		}
	}
	tells(t, it, fewPairs(api.Bytewise))
}

// P16.1: memtables and tables are sources, alone and merged; what they have of ranges is handed in beside them.
func TestMemtablesAndTables(t *testing.T) {
	r := chance(3)
	for range 60 {
		how := r.IntN(2)
		m, e := memtable.New(how, []byte{1, 2, 3})
		if e != api.OK {
			t.Fatal(e)
		}
		var l, old []api.Entry
		ranges := []api.Tombstone{}
		for seq := uint64(1); seq < 60; seq++ {
			x := api.Record{Kind: r.IntN(3), Key: word(r), Value: word(r)}
			if x.Kind == api.RangeDelete {
				ranges = append(ranges, tomb(x.Key, x.Value, seq))
			} else {
				if x.Kind == api.Delete {
					x.Value = ""
				}
				l = append(l, entry(x.Key, seq, x.Kind, x.Value))
			}
			if seq < 30 {
				old = slices.Clone(l)
			} else if e := m.Add(seq, x); e != api.OK {
				t.Fatal(e)
			}
		}
		b, e := sstable.Build(api.TableOptions{How: how, Block: 60, Restart: 3, Part: 2, Bits: 8}, sorted(how, old), nil)
		if e != api.OK {
			t.Fatal(e)
		}
		table, e := sstable.Open(how, b)
		if e != api.OK {
			t.Fatal(e)
		}
		for seq := uint64(0); seq < 61; seq += 1 + r.Uint64N(9) {
			bounds := chosen(r)
			it := fresh(t, how, merge.Merged(how, []merge.Source{m, table}), ranges, seq, bounds)
			tells(t, it, view(how, l, ranges, seq, bounds))
		}
		tells(t, fresh(t, how, table, nil, 29, api.Bounds{}), view(how, old, nil, 29, api.Bounds{}))
	}
}
