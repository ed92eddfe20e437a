package memtable_test

import (
	"math"
	"slices"
	"strconv"
	"testing"

	"sediment/api"
	"sediment/memtable"
)

// P7.1
func TestNew(t *testing.T) {
	for _, how := range []int{2, 3, -1, math.MaxInt, math.MinInt} {
		if m, e := memtable.New(how, []byte{1}); m != nil || e != api.ErrArg {
			t.Errorf("New(%d): %v, %d, want nil, %d", how, m, e, api.ErrArg)
		}
	}
	for _, how := range hows() {
		for _, heights := range manyHeights() {
			m := fresh(t, how, heights)
			shows(t, m, &model{how: how})
			gets(t, m, "", 0, "", 0, false)
			gets(t, m, "a", math.MaxUint64, "", 0, false)
		}
	}
}

// P7.1: wrong records and numbers, which change nothing.
func TestAddRefuses(t *testing.T) {
	for _, how := range hows() {
		want := &model{how: how, list: []done{{3, put("a", "1")}, {4, span("b", "c")}}}
		m := filled(t, how, []byte{2, 1}, want.list...)
		for _, c := range []struct {
			seq  uint64
			r    api.Record
			want api.Errno
		}{
			{1 << 56, put("x", ""), api.ErrArg},
			{math.MaxUint64, del("x"), api.ErrArg},
			{1 << 56, span("x", "y"), api.ErrArg},
			{1 << 56, put(text(1025), ""), api.ErrArg},
			{1, api.Record{Kind: 3, Key: "x"}, api.ErrArg},
			{1, api.Record{Kind: -1, Key: "x"}, api.ErrArg},
			{1, api.Record{Kind: 3, Key: text(1025)}, api.ErrArg},
			{1, api.Record{Kind: math.MinInt, Key: "x"}, api.ErrArg},
			{1, put(text(1025), ""), api.ErrLong},
			{1, put("x", text(16385)), api.ErrLong},
			{1, del(text(1025)), api.ErrLong},
			{1, span(text(1025), ""), api.ErrLong},
			{1, span("", text(1025)), api.ErrLong},
			{3, put("a", "1"), api.ErrThere},
			{3, put("a", "another value"), api.ErrThere},
			{4, span("b", "c"), api.ErrThere},
			{3, api.Record{Family: 9, Kind: api.Put, Key: "a"}, api.ErrThere},
		} {
			adds(t, m, c.seq, c.r, c.want)
			shows(t, m, want)
		}
		gets(t, m, "a", 3, "1", api.Put, true)
	}
}

// P7.1: records that differ from all others in one of what makes them the same, and the edges.
func TestAddTakes(t *testing.T) {
	for _, how := range hows() {
		want := &model{how: how}
		m := fresh(t, how, []byte{1, 2, 5})
		for _, d := range []done{
			{3, put("a", "1")}, {4, put("a", "1")}, {3, put("b", "1")}, {3, del("a")},
			{3, span("a", "c")}, {4, span("a", "c")}, {3, span("a", "d")}, {3, span("b", "c")},
			{3, span("a", "a")}, {3, span("c", "a")}, {3, span("a", "1")}, {3, span("", "")},
			{0, put("", "")}, {0, del("")}, {1<<56 - 1, put("a", "")}, {1<<56 - 1, span("a", "b")},
			{5, put(text(1024), text(16384))}, {5, del(text(1024))}, {5, span(text(1024), text(1024))},
			{6, api.Record{Family: 1<<32 - 1, Kind: api.Put, Key: "f", Value: "g"}},
		} {
			adds(t, m, d.seq, d.r, api.OK)
			if e := want.add(d.seq, d.r); e != api.OK {
				t.Fatalf("the model refuses: %d", e)
			}
			shows(t, m, want)
			adds(t, m, d.seq, d.r, api.ErrThere)
		}
	}
}

// P7.1: what a Delete has as its value is not kept, and not looked at.
func TestAddOfADeleteWithAValue(t *testing.T) {
	m := fresh(t, api.Bytewise, nil)
	adds(t, m, 1, api.Record{Kind: api.Delete, Key: "a", Value: text(api.MaxValue + 1)}, api.OK)
	gets(t, m, "a", 1, "", api.Delete, true)
	goes(t, "All", m.All(api.Key{}), []api.Entry{entry("a", 1, api.Delete, "")})
	if m.Size() != 17 {
		t.Errorf("Size %d, want 17", m.Size())
	}
	adds(t, m, 1, api.Record{Kind: api.Delete, Key: "a", Value: "another"}, api.ErrThere)
}

// P7.1: a table has 8192 records, of whatever kind; the errors ahead of that are told ahead.
func TestAddUntilFull(t *testing.T) {
	record := func(i int) api.Record {
		k := strconv.Itoa(i)
		return []api.Record{put(k, k), del(k), span(k, k+"~")}[i%3]
	}
	for _, how := range hows() {
		m := fresh(t, how, nil)
		for i := range 8192 {
			adds(t, m, uint64(i+1), record(i), api.OK)
		}
		for _, r := range []api.Record{put("new", ""), del("new"), span("new", "o"), record(0), record(1), record(2)} {
			adds(t, m, 1, r, api.ErrLong)
		}
		adds(t, m, 2, record(1), api.ErrLong)
		adds(t, m, 1<<56, put("new", ""), api.ErrArg)
		adds(t, m, 1, api.Record{Kind: 7}, api.ErrArg)
		adds(t, m, 1, put(text(1025), ""), api.ErrLong)
		if m.Len() != 8192 || m.First() != 1 || m.Last() != 8192 || len(m.Tombstones()) != 2730 {
			t.Errorf("Len %d, First %d, Last %d, %d tombstones", m.Len(), m.First(), m.Last(), len(m.Tombstones()))
		}
		gets(t, m, "3", 9999, "3", api.Put, true)
		gets(t, m, "new", 9999, "", 0, false)
	}
}

// P7.1: of one kind alone a table has as many.
func TestAddUntilFullOfOneKind(t *testing.T) {
	for _, kind := range []int{api.Delete, api.Put, api.RangeDelete} {
		m := fresh(t, api.Bytewise, nil)
		for i := range 8192 {
			adds(t, m, 5, api.Record{Kind: kind, Key: strconv.Itoa(i)}, api.OK)
		}
		adds(t, m, 5, api.Record{Kind: kind, Key: "new"}, api.ErrLong)
	}
}

// P7.2: the chapter's example.
func TestGetKnown(t *testing.T) {
	for _, heights := range manyHeights() {
		m := filled(t, api.Bytewise, heights, done{1, put("a", "x")}, done{2, span("a", "c")}, done{3, put("b", "y")})
		gets(t, m, "a", 9, "", api.RangeDelete, true)
		gets(t, m, "a", 2, "", api.RangeDelete, true)
		gets(t, m, "a", 1, "x", api.Put, true)
		gets(t, m, "a", 0, "", 0, false)
		gets(t, m, "b", 9, "y", api.Put, true)
		gets(t, m, "b", 2, "", api.RangeDelete, true)
		gets(t, m, "b", 1, "", 0, false)
		gets(t, m, "c", 9, "", 0, false)
		gets(t, m, "", 9, "", 0, false)
	}
}

// P7.2: of several entries of a key the one that was done last of those that are seen.
func TestGetOfSeveral(t *testing.T) {
	for _, how := range hows() {
		m := filled(t, how, []byte{1, 2},
			done{5, put("k", "5")}, done{9, put("k", "9")}, done{7, del("k")}, done{0, put("k", "0")},
			done{7, put("j", "7")}, done{7, put("l", "7")}, done{api.MaxSeq, put("k", "max")})
		for seq, want := range map[uint64]string{0: "0", 4: "0", 5: "5", 6: "5", 9: "9", 10: "9", api.MaxSeq - 1: "9", api.MaxSeq: "max", math.MaxUint64: "max"} {
			gets(t, m, "k", seq, want, api.Put, true)
		}
		gets(t, m, "k", 7, "", api.Delete, true)
		gets(t, m, "k", 8, "", api.Delete, true)
		gets(t, m, "kk", 9, "", 0, false)
		gets(t, m, "", math.MaxUint64, "", 0, false)
		gets(t, m, text(5000), math.MaxUint64, "", 0, false)
	}
}

// P7.2: at one number a Put comes ahead of a Delete.
func TestGetOfBothKinds(t *testing.T) {
	one := filled(t, api.Bytewise, nil, done{4, put("k", "v")}, done{4, del("k")})
	two := filled(t, api.Bytewise, nil, done{4, del("k")}, done{4, put("k", "v")})
	gets(t, one, "k", 4, "v", api.Put, true)
	gets(t, two, "k", 4, "v", api.Put, true)
}

// P7.2: over which keys a tombstone lies, by both comparators.
func TestGetAtTheEndsOfARange(t *testing.T) {
	m := filled(t, api.Bytewise, nil, done{2, span("b", "d")}, done{3, span("x", "x")}, done{3, span("z", "y")})
	for _, c := range []struct {
		key string
		is  bool
	}{{"", false}, {"a", false}, {"a\xff", false}, {"b", true}, {"b\x00", true}, {"c", true}, {"c\xff", true}, {"d", false}, {"d\x00", false}, {"x", false}, {"y", false}, {"z", false}} {
		kind := 0
		if c.is {
			kind = api.RangeDelete
		}
		gets(t, m, c.key, 9, "", kind, c.is)
	}
	back := filled(t, api.Reverse, nil, done{2, span("d", "b")}, done{3, span("x", "x")}, done{3, span("y", "z")})
	for _, c := range []struct {
		key string
		is  bool
	}{{"d\x00", false}, {"d", true}, {"c\xff", true}, {"c", true}, {"b\x00", true}, {"b", false}, {"a", false}, {"", false}, {"x", false}, {"y", false}, {"z", false}} {
		kind := 0
		if c.is {
			kind = api.RangeDelete
		}
		gets(t, back, c.key, 9, "", kind, c.is)
	}
}

// P7.2: a tombstone and an entry of the same number; one of the number 0; several over one key.
func TestGetOfTombstonesAndEntries(t *testing.T) {
	m := filled(t, api.Bytewise, []byte{3, 1},
		done{0, span("a", "z")}, done{5, put("k", "5")}, done{5, span("k", "l")}, done{5, put("o", "o")}, done{6, del("p")},
		done{8, span("b", "m")}, done{7, span("j", "q")}, done{9, span("k", "")})
	gets(t, m, "k", 0, "", api.RangeDelete, true)
	gets(t, m, "k", 4, "", api.RangeDelete, true)
	gets(t, m, "k", 5, "5", api.Put, true)
	gets(t, m, "k", 6, "5", api.Put, true)
	gets(t, m, "k", 7, "", api.RangeDelete, true)
	gets(t, m, "k", 99, "", api.RangeDelete, true)
	gets(t, m, "o", 6, "o", api.Put, true)
	gets(t, m, "o", 7, "", api.RangeDelete, true)
	gets(t, m, "p", 6, "", api.Delete, true)
	gets(t, m, "p", 8, "", api.RangeDelete, true)
	gets(t, m, "z", 99, "", 0, false)
}

// P7.2, P7.3: all that a table tells, by a model, record by record.
func TestAgainstAModel(t *testing.T) {
	for seed := range uint64(60) {
		r := chance(seed)
		how := r.IntN(2)
		m, want := fresh(t, how, someHeights(r)), &model{how: how}
		for range r.IntN(80) {
			seq, x := someSeq(r), someRecord(r)
			adds(t, m, seq, x, want.add(seq, x))
			for range 3 {
				user, at := someKey(r), someSeq(r)
				v, k, is := want.get(user, at)
				gets(t, m, user, at, v, k, is)
			}
			from := someFrom(r)
			goes(t, "All", m.All(from), want.all(from))
			goes(t, "Back", m.Back(from), want.back(from))
		}
		shows(t, m, want)
		if t.Failed() {
			t.Fatalf("seed %d", seed)
		}
	}
}

// P7.3: from a key that is there, between two, of another number or kind.
func TestAllAndBackFrom(t *testing.T) {
	l := []api.Entry{entry("a", 9, api.Put, "1"), entry("a", 4, api.Put, "2"), entry("a", 4, api.Delete, ""), entry("ab", 1, api.Delete, ""), entry("c", 0, api.Put, "3")}
	for _, heights := range manyHeights() {
		m := fresh(t, api.Bytewise, heights)
		for _, i := range []int{3, 0, 4, 2, 1} {
			adds(t, m, l[i].Seq, api.Record{Kind: l[i].Kind, Key: l[i].User, Value: l[i].Value}, api.OK)
		}
		for _, c := range []struct {
			from        api.Key
			ahead, upTo int // how many are ahead of it, and how many are not behind it
		}{
			{key("", 0, 0), 0, 0}, {key("a", 10, 0), 0, 0}, {key("a", 9, 2), 0, 0}, {key("a", math.MaxUint64, 0), 0, 0},
			{key("a", 9, 1), 0, 1}, {key("a", 9, 0), 1, 1}, {key("a", 5, 0), 1, 1}, {key("a", 4, 2), 1, 1}, {key("a", 4, 1), 1, 2},
			{key("a", 4, 0), 2, 3}, {key("a", 4, -1), 3, 3}, {key("a", 0, 0), 3, 3}, {key("a\x00", 4, 1), 3, 3}, {key("ab", 1, 1), 3, 3},
			{key("ab", 1, 0), 3, 4}, {key("b", 0, 0), 4, 4}, {key("c", 0, math.MaxInt), 4, 4}, {key("c", 0, 1), 4, 5}, {key("c", 0, math.MinInt), 5, 5},
			{key("d", math.MaxUint64, 0), 5, 5}, {key(text(5000), 0, 0), 5, 5},
		} {
			goes(t, "All", m.All(c.from), l[c.ahead:])
			turned := slices.Clone(l[:c.upTo])
			slices.Reverse(turned)
			goes(t, "Back", m.Back(c.from), turned)
		}
	}
}

// P7.3: what is gone through is what was there when it began to be, not when it was asked for, whatever is added meanwhile.
func TestGoesThroughWhatWasThere(t *testing.T) {
	for _, heights := range manyHeights() {
		m := fresh(t, api.Bytewise, heights)
		all, back := m.All(api.Key{}), m.Back(key(top, 0, 0))
		want := &model{}
		add := func(seq uint64, user string) {
			adds(t, m, seq, put(user, user), want.add(seq, put(user, user)))
		}
		for _, user := range []string{"b", "d", "f"} {
			add(5, user)
		}
		for round := range uint64(3) {
			then := want.entries()
			var got []api.Entry
			for e := range all {
				add(10+round, e.User) // right ahead of it
				add(3-round, e.User)  // right behind it
				add(10+round, e.User+"x")
				add(5, "a"+strconv.Itoa(int(round)))
				add(5, "z"+strconv.Itoa(int(round)))
				got = append(got, e)
			}
			if !slices.Equal(got, then) {
				t.Errorf("All: %v, want %v", got, then)
			}
			then = want.entries()
			slices.Reverse(then)
			got = nil
			for e := range back {
				add(20+round, e.User)
				add(20+round, e.User+"y")
				add(6, "a"+strconv.Itoa(int(round)))
				add(6, "z"+strconv.Itoa(int(round)))
				got = append(got, e)
			}
			if !slices.Equal(got, then) {
				t.Errorf("Back: %v, want %v", got, then)
			}
		}
		shows(t, m, want)
	}
}

// P7.3: ended at any place, gone through again, one within the other.
func TestGoesThroughSeveralTimes(t *testing.T) {
	var l []done
	for i := range 9 {
		l = append(l, done{uint64(i), put(strconv.Itoa(i), "")})
	}
	m := filled(t, api.Bytewise, []byte{2, 1, 4}, l...)
	all, back := m.All(key("2", 2, api.Put)), m.Back(key("6", 6, api.Put))
	want, turned := slices.Collect(all), slices.Collect(back)
	if len(want) != 7 || len(turned) != 7 {
		t.Fatalf("%d and %d entries, want 7 and 7", len(want), len(turned))
	}
	for stop := range 8 {
		var got, gotBack []api.Entry
		for e := range all {
			if len(got) == stop {
				break
			}
			got = append(got, e)
			goes(t, "All within All", all, want)
			goes(t, "Back within All", back, turned)
		}
		for e := range back {
			if len(gotBack) == stop {
				break
			}
			gotBack = append(gotBack, e)
		}
		if !slices.Equal(got, want[:min(stop, 7)]) || !slices.Equal(gotBack, turned[:min(stop, 7)]) {
			t.Errorf("ended behind %d: %v and %v", stop, got, gotBack)
		}
	}
}

// P7.3: a panic of whoever goes through goes through, and the table is as it was.
func TestGoesThroughAPanic(t *testing.T) {
	want := &model{list: []done{{1, put("a", "")}, {2, put("b", "")}}}
	m := filled(t, api.Bytewise, nil, want.list...)
	for _, seq := range []func(func(api.Entry) bool){m.All(api.Key{}), m.Back(key(top, 0, 0))} {
		func() {
			defer func() {
				if got := recover(); got != "mine" {
					t.Errorf("recovered %v", got)
				}
			}()
			for range seq {
				panic("mine")
			}
		}()
		shows(t, m, want)
	}
}

// P7.3: by begin, by end, then the greater number first; by both comparators.
func TestTombstonesInOrder(t *testing.T) {
	l := []api.Tombstone{
		{Begin: "", End: "", Seq: 1}, {Begin: "", End: "b", Seq: 9}, {Begin: "a", End: "", Seq: 2}, {Begin: "a", End: "b", Seq: 7}, {Begin: "a", End: "b", Seq: 3},
		{Begin: "a", End: "b", Seq: 0}, {Begin: "a", End: "ba", Seq: 8}, {Begin: "a", End: "c", Seq: 1}, {Begin: "aa", End: "ab", Seq: 5}, {Begin: "b", End: "a", Seq: 5},
	}
	reversed := []api.Tombstone{l[9], l[8], l[7], l[6], l[3], l[4], l[5], l[2], l[1], l[0]}
	for how, want := range [][]api.Tombstone{l, reversed} {
		for seed := range uint64(20) {
			m := fresh(t, how, nil)
			for _, i := range chance(seed).Perm(len(l)) {
				adds(t, m, l[i].Seq, span(l[i].Begin, l[i].End), api.OK)
				adds(t, m, 6, put(l[i].Begin+strconv.Itoa(i), ""), api.OK) // entries are none of them
			}
			if got := m.Tombstones(); !slices.Equal(got, want) {
				t.Errorf("comparator %d: %v, want %v", how, got, want)
			}
		}
	}
}

// P7.3: each kind is counted, and what is refused is not.
func TestLenSizeFirstLast(t *testing.T) {
	m := fresh(t, api.Bytewise, nil)
	for _, c := range []struct {
		seq         uint64
		r           api.Record
		want        api.Errno
		len, size   int
		first, last uint64
	}{
		{7, put("abc", "de"), api.OK, 1, 21, 7, 7},
		{7, put("abc", "xxxxx"), api.ErrThere, 1, 21, 7, 7},
		{9, del("abc"), api.OK, 2, 40, 7, 9},
		{5, span("abc", "z"), api.OK, 3, 60, 5, 9},
		{5, span("abc", "z"), api.ErrThere, 3, 60, 5, 9},
		{1 << 60, put("a", ""), api.ErrArg, 3, 60, 5, 9},
		{6, put("", ""), api.OK, 4, 76, 5, 9},
		{0, span("", ""), api.OK, 5, 92, 0, 9},
		{3, put("q", text(16384)), api.OK, 6, 92 + 17 + 16384, 0, 9},
		{api.MaxSeq, del("q"), api.OK, 7, 92 + 17 + 16384 + 17, 0, api.MaxSeq},
	} {
		adds(t, m, c.seq, c.r, c.want)
		if m.Len() != c.len || m.Size() != c.size || m.First() != c.first || m.Last() != c.last {
			t.Errorf("Len %d, Size %d, First %d, Last %d, want %v", m.Len(), m.Size(), m.First(), m.Last(), c)
		}
	}
}

// Memory: neither heights nor what was answered has to do with the table any more.
func TestMemoryIsItsOwn(t *testing.T) {
	heights := make([]byte, 3, 9)
	copy(heights, []byte{1, 2, 3})
	want := &model{}
	m := fresh(t, api.Bytewise, heights)
	for i := range 20 {
		seq, r := uint64(i), []api.Record{put("k", "v"), span("a", "b"), del("l")}[i%3]
		adds(t, m, seq, r, want.add(seq, r))
		if !slices.Equal(heights[:9], []byte{1, 2, 3, 0, 0, 0, 0, 0, 0}) {
			t.Fatalf("heights are %v", heights[:9])
		}
		for _, l := range [][]api.Tombstone{m.Tombstones(), m.Tombstones()} {
			clear(l[:cap(l)])
		}
		shows(t, m, want)
	}
	clear(heights)
	adds(t, m, 99, put("m", ""), want.add(99, put("m", "")))
	shows(t, m, want)
}

// Two tables know nothing of one another, though they had the same heights.
func TestTablesOfTheirOwn(t *testing.T) {
	heights := []byte{2, 1}
	a, b := fresh(t, api.Bytewise, heights), fresh(t, api.Bytewise, heights)
	adds(t, a, 1, put("k", "v"), api.OK)
	adds(t, a, 2, span("a", "b"), api.OK)
	shows(t, b, &model{})
	adds(t, b, 1, put("k", "w"), api.OK)
	gets(t, a, "k", 9, "v", api.Put, true)
	gets(t, b, "k", 9, "w", api.Put, true)
}
