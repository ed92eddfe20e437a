package merge_test

import (
	"fmt"
	"iter"
	"slices"
	"testing"

	"sediment/api"
	"sediment/block"
	"sediment/memtable"
	"sediment/merge"
)

// Example 1, and P15.1: Merged of several lists tells them in order, either way.
func TestMergedExample(t *testing.T) {
	m := merge.Merged(api.Bytewise, lists(t, api.Bytewise, puts("ac", "x"), puts("bd", "x")))
	alike(t, "All", slices.Collect(m.All(least(api.Bytewise))), puts("abcd", "x"))
	alike(t, "Back", slices.Collect(m.Back(greatest(api.Bytewise))), puts("dcba", "x"))
	m = merge.Merged(api.Reverse, lists(t, api.Reverse, puts("ca", "x"), puts("db", "x")))
	alike(t, "All", slices.Collect(m.All(least(api.Reverse))), puts("dcba", "x"))
	alike(t, "Back", slices.Collect(m.Back(greatest(api.Reverse))), puts("abcd", "x"))
}

// P15.1: Merged tells all entries from any key on, those that lie in one list alone too.
func TestMergedFromAnyKey(t *testing.T) {
	for _, how := range hows() {
		l := sorted(how, mixed())
		for n := 1; n <= 5; n++ {
			parts := make([][]api.Entry, n)
			for i, e := range l {
				parts[i*i%n] = append(parts[i*i%n], e)
			}
			var all []api.Entry
			for _, p := range parts {
				all = append(all, p...)
			}
			tells(t, how, merge.Merged(how, lists(t, how, parts...)), sorted(how, all))
		}
	}
}

// P15.1: of nothing, of nil sources, of empty ones: nothing; and beside others they have none.
func TestMergedOfNone(t *testing.T) {
	for _, how := range hows() {
		one := sorted(how, mixed())
		for _, l := range [][]merge.Source{nil, {}, {nil}, {nil, nil}, {list(t, how, nil)}, {nil, list(t, how, nil), mute{}}} {
			tells(t, how, merge.Merged(how, l), nil)
			tells(t, how, merge.Merged(how, append(slices.Clone(l), list(t, how, one))), one)
			tells(t, how, merge.Merged(how, append([]merge.Source{list(t, how, one)}, l...)), one)
		}
	}
}

// P15.1: of the same keys the entry of the source that stands ahead comes first, of Back last.
func TestMergedTies(t *testing.T) {
	for _, how := range hows() {
		one := []api.Entry{put("a", 5, "1"), put("a", 4, "1")}
		two := []api.Entry{put("a", 5, "2"), put("a", 5, "2 again"), put("a", 3, "2")}
		three := []api.Entry{put("a", 5, "3"), put("a", 4, "3"), put("a", 4, "3 again"), put("a", 3, "3")}
		tells(t, how, merge.Merged(how, lists(t, how, one, two, three)), []api.Entry{
			put("a", 5, "1"), put("a", 5, "2"), put("a", 5, "2 again"), put("a", 5, "3"),
			put("a", 4, "1"), put("a", 4, "3"), put("a", 4, "3 again"), put("a", 3, "2"), put("a", 3, "3"),
		})
		tells(t, how, merge.Merged(how, lists(t, how, three, two, one)), []api.Entry{
			put("a", 5, "3"), put("a", 5, "2"), put("a", 5, "2 again"), put("a", 5, "1"),
			put("a", 4, "3"), put("a", 4, "3 again"), put("a", 4, "1"), put("a", 3, "3"), put("a", 3, "2"),
		})
	}
}

// P15.1: the same list many times over: each entry is there as often, source by source.
func TestMergedOfOneSourceManyTimes(t *testing.T) {
	for _, how := range hows() {
		l := sorted(how, mixed())
		s := list(t, how, l)
		var all []merge.Source
		var want []api.Entry
		for range 12 {
			all, want = append(all, s), append(want, l...)
		}
		tells(t, how, merge.Merged(how, all), sorted(how, want))
	}
}

// P15.1: a how that is none is as Bytewise, as in codec.Order.
func TestMergedByWrongHow(t *testing.T) {
	for _, how := range wrongHows() {
		m := merge.Merged(how, lists(t, api.Bytewise, puts("ac", "1"), puts("abd", "2")))
		want := []api.Entry{put("a", 5, "1"), put("a", 5, "2"), put("b", 5, "2"), put("c", 5, "1"), put("d", 5, "2")}
		tells(t, api.Bytewise, m, want)
	}
}

// P15.1: the list of sources may be changed once it was handed in, and is not changed.
func TestMergedKeepsNoList(t *testing.T) {
	l := lists(t, api.Bytewise, puts("ac", "x"), puts("bd", "x"), puts("e", "x"))
	m := merge.Merged(api.Bytewise, l[:2])
	tells(t, api.Bytewise, m, puts("abcd", "x"))
	if l[2] == nil || len(slices.Collect(l[2].All(api.Key{}))) != 1 {
		t.Error("the list was changed")
	}
	clear(l)
	tells(t, api.Bytewise, m, puts("abcd", "x"))
}

// probes are probes of lists, and these as sources.
func probes(t *testing.T, how int, l ...[]api.Entry) ([]*probe, []merge.Source) {
	t.Helper()
	var all []*probe
	var sources []merge.Source
	for _, x := range l {
		p := &probe{Source: list(t, how, x)}
		all, sources = append(all, p), append(sources, p)
	}
	return all, sources
}

// P15.1: Merged asks no source ahead of being asked itself.
func TestMergedAsksNothingAhead(t *testing.T) {
	all, sources := probes(t, api.Bytewise, puts("ac", "x"), puts("bd", "x"))
	m := merge.Merged(api.Bytewise, sources)
	m.All(least(api.Bytewise))
	m.Back(greatest(api.Bytewise))
	for i, p := range all {
		if len(p.asks) != 0 {
			t.Errorf("source %d was asked: %v", i, p.asks)
		}
	}
}

// P15.1: each source is asked first for the same from, then from where it stands, and not the other way about.
func TestMergedAsksFirstForTheSame(t *testing.T) {
	parts := [][]api.Entry{puts("acegik", "x"), puts("bbdfffhj", "x"), puts("ffgz", "x"), nil, puts("a", "x")}
	for _, k := range []api.Key{least(api.Bytewise), key("f", 5, api.Put), key("f", 77, 9), key("e", 1, -4), greatest(api.Bytewise)} {
		for _, turned := range []bool{false, true} {
			all, sources := probes(t, api.Bytewise, parts...)
			m := merge.Merged(api.Bytewise, sources)
			if turned {
				through(m.Back(k))
			} else {
				through(m.All(k))
			}
			for i, p := range all {
				asksWell(t, p, parts[i], k, turned)
			}
		}
	}
}

// asksWell wants that a probe was asked first for a key and then for keys of its own entries, each behind the last one.
func asksWell(t *testing.T, p *probe, l []api.Entry, k api.Key, turned bool) {
	t.Helper()
	for i, a := range p.asks {
		has := slices.ContainsFunc(l, func(e api.Entry) bool { return e.Key == a.from })
		if a.back != turned || i == 0 && a.from != k || i > 0 && !has {
			t.Errorf("asked from %v (back %t): ask %d is %v", k, turned, i, a)
		}
		if c := 0; i > 1 {
			if c = order(api.Bytewise, p.asks[i-1].from, a.from); turned {
				c = -c
			}
			if c > 0 {
				t.Errorf("ask %d goes to and fro: %v", i, p.asks)
			}
		}
	}
	if len(p.asks) == 0 {
		t.Errorf("from %v: a source was not asked", k)
	}
}

// P15.1: no source is asked further than to the entry behind the one that is told.
func TestMergedReadsNoFurther(t *testing.T) {
	var parts [][]api.Entry
	n := 0
	for i, letters := range []string{"acegik", "bbdfffhj", "ffgz", "", "aaa", "lmnopq"} {
		l := puts(letters, "")
		for j := range l {
			l[j].Value = fmt.Sprint(i, ".", j)
		}
		parts, n = append(parts, l), n+len(l)
	}
	for end := 1; end <= n; end++ {
		for _, turned := range []bool{false, true} {
			all, sources := probes(t, api.Bytewise, parts...)
			m := merge.Merged(api.Bytewise, sources)
			if turned {
				readsNoFurther(t, m.Back(greatest(api.Bytewise)), all, parts, end)
			} else {
				readsNoFurther(t, m.All(least(api.Bytewise)), all, parts, end)
			}
		}
	}
}

// readsNoFurther wants that of each source no more is told than what came out of it and one more, up to where the list is ended.
func readsNoFurther(t *testing.T, l iter.Seq[api.Entry], all []*probe, parts [][]api.Entry, end int) {
	t.Helper()
	out := make([]int, len(parts))
	check := func(n int) {
		t.Helper()
		for i, p := range all {
			if len(p.told) > out[i]+1 {
				t.Fatalf("behind %d entries, of %d: source %d told %d, of which %d are out", n, end, i, len(p.told), out[i])
			}
		}
	}
	n := 0
	for e := range l {
		out[slices.IndexFunc(parts, func(p []api.Entry) bool { return slices.Contains(p, e) })]++
		n++
		check(n)
		if n == end {
			break
		}
	}
	check(n)
}

// P15.1: what is asked for its first entry alone reads one entry of each source, and asks each once.
func TestMergedFirstAlone(t *testing.T) {
	all, sources := probes(t, api.Bytewise, puts("bdf", "x"), puts("ace", "x"), puts("xyz", "x"))
	alike(t, "first", some(merge.Merged(api.Bytewise, sources).All(least(api.Bytewise)), 1), puts("a", "x"))
	for i, p := range all {
		if len(p.asks) != 1 || p.most != 1 {
			t.Errorf("source %d: %d asks, %d entries", i, len(p.asks), p.most)
		}
	}
}

// P15.1: while one source's entries come first, no other is asked anew.
func TestMergedAsksOnlyWhoIsNext(t *testing.T) {
	all, sources := probes(t, api.Bytewise, puts("abcdef", "x"), puts("ghijkl", "x"))
	alike(t, "All", slices.Collect(merge.Merged(api.Bytewise, sources).All(least(api.Bytewise))), puts("abcdefghijkl", "x"))
	for i, p := range all {
		if len(p.asks) > 3 {
			t.Errorf("source %d: %d asks: %v", i, len(p.asks), p.asks)
		}
	}
}

// P15.1: Merged is gone through several times, one within the other, and ended at any place.
func TestMergedManyTimes(t *testing.T) {
	for _, how := range hows() {
		l := sorted(how, mixed())
		var parts [3][]api.Entry
		for i, e := range l {
			parts[i%3] = append(parts[i%3], e)
		}
		m := merge.Merged(how, lists(t, how, parts[:]...))
		want := sorted(how, slices.Concat(parts[:]...))
		turned := slices.Clone(want)
		slices.Reverse(turned)
		all, back := m.All(least(how)), m.Back(greatest(how))
		for n := 1; n <= len(l); n++ {
			alike(t, "All", some(all, n), want[:n])
			alike(t, "Back", some(back, n), turned[:n])
		}
		for range all {
			alike(t, "Back within All", slices.Collect(back), turned)
			alike(t, "All within All", slices.Collect(all), want)
		}
	}
}

// Ends: sources that are not sorted, that don't hear from where on, or answer no list: Merged tells what it may, and ends.
func TestMergedOfWildSources(t *testing.T) {
	falls := puts("cabzza", "x")
	for _, how := range []int{api.Bytewise, api.Reverse, 7} {
		for _, l := range [][]merge.Source{
			{wild{falls, 1}}, {wild{falls, 3}}, {wild{falls, 3}, wild{puts("bbb", "y"), 5}}, {wild{falls, 2}, mute{}, list(t, api.Bytewise, puts("abc", "z"))},
			{wild{puts("aaaa", "x"), 4}, wild{puts("aaaa", "x"), 4}}, {wild{puts("zyxw", "x"), 1}, wild{puts("wxyz", "x"), 1}},
		} {
			m := merge.Merged(how, l)
			for range 2 {
				l := append(slices.Collect(m.All(key("b", 5, 1))), slices.Collect(m.Back(key("b", 5, 1)))...)
				if len(l) > 100 {
					t.Errorf("%d entries", len(l))
				}
			}
			m = merge.Merged(how, []merge.Source{m, m})
			through(m.All(least(how)))
			through(m.Back(least(how)))
		}
	}
}

// moody is a source that panics when it was asked so often.
type moody struct {
	merge.Source
	asks *int
}

func (m moody) All(k api.Key) iter.Seq[api.Entry] {
	if *m.asks--; *m.asks < 0 {
		panic("moody")
	}
	return m.Source.All(k)
}

// A source that panics does so through all calls; then Merged works as ahead.
func TestMergedOfOneThatPanics(t *testing.T) {
	want := puts("abcdef", "x")
	asks := 0
	m := merge.Merged(api.Bytewise, []merge.Source{moody{list(t, api.Bytewise, puts("ace", "x")), &asks}, list(t, api.Bytewise, puts("bdf", "x"))})
	for n := range 3 {
		asks = n
		if p := panics(func() { through(m.All(least(api.Bytewise))) }); p != "moody" {
			t.Errorf("at ask %d: %q", n, p)
		}
	}
	asks = 99
	alike(t, "All", slices.Collect(m.All(least(api.Bytewise))), want)
	if p := panics(func() {
		for e := range m.All(least(api.Bytewise)) {
			if e.User == "c" {
				panic("enough")
			}
		}
	}); p != "enough" {
		t.Errorf("%q", p)
	}
	alike(t, "All", slices.Collect(m.All(least(api.Bytewise))), want)
}

// P15.1: memtables and blocks are sources.
func TestMergedOfMemtablesAndBlocks(t *testing.T) {
	for _, how := range hows() {
		var all []api.Entry
		m, _ := memtable.New(how, nil)
		for i := range 40 {
			u := fmt.Sprintf("k%02d", i*7%20)
			if e := m.Add(uint64(2*i+2), api.Record{Kind: i % 2, Key: u, Value: ""}); e != api.OK {
				t.Fatal(e)
			}
			all = append(all, api.Entry{Key: key(u, uint64(2*i+2), i%2)})
		}
		var l []api.Entry
		for i := range 60 {
			l = append(l, put(fmt.Sprintf("k%02d", i%30), uint64(2*i+1), "block"))
		}
		l = sorted(how, l)
		raw, e := block.Build(how, 4, l)
		if e != api.OK {
			t.Fatal(e)
		}
		b, e := block.Open(how, raw)
		if e != api.OK {
			t.Fatal(e)
		}
		tells(t, how, merge.Merged(how, []merge.Source{m, b}), sorted(how, append(all, l...)))
	}
}
