package memtable_test

import (
	"slices"
	"strconv"
	"testing"

	"sediment/api"
	"sediment/memtable"
)

// P7.4: as many records as there may be, rising, falling and in any order, by heights that make the worst of lists.
func TestRisesAndTurns(t *testing.T) {
	orders := [][]int{chance(1).Perm(api.MaxMem)}
	rising := make([]int, api.MaxMem)
	for i := range rising {
		rising[i] = i
	}
	falling := slices.Clone(rising)
	slices.Reverse(falling)
	orders = append(orders, rising, falling)
	for _, how := range hows() {
		for _, heights := range [][]byte{nil, {0}, {255}, {1, 3, 2}} {
			for _, order := range orders {
				m := fresh(t, how, heights)
				for _, i := range order {
					adds(t, m, uint64(i%5), put(strconv.Itoa(i/5), ""), api.OK)
				}
				rises(t, m, how)
			}
		}
	}
}

// rises wants all of a full table of entries to rise, and Back to turn it about.
func rises(t *testing.T, m *memtable.Table, how int) {
	t.Helper()
	l := slices.Collect(m.All(least(how, top)))
	if len(l) != api.MaxMem {
		t.Fatalf("%d entries", len(l))
	}
	for i := range len(l) - 1 {
		if !comesFirst(how, l[i].Key, l[i+1].Key) {
			t.Fatalf("%v comes ahead of %v", l[i], l[i+1])
		}
	}
	slices.Reverse(l)
	if turned := slices.Collect(m.Back(greatest(how, top))); !slices.Equal(turned, l) {
		t.Fatal("Back does not turn All about")
	}
}

// P7.4: whatever heights, and whatever the order in which the same records came, one is told the same.
func TestHeightsChangeNothing(t *testing.T) {
	for seed := range uint64(40) {
		r := chance(seed)
		how := r.IntN(2)
		want := &model{how: how}
		for range 120 {
			want.add(someSeq(r), someRecord(r))
		}
		for _, heights := range append(manyHeights(), someHeights(r), someHeights(r)) {
			m := fresh(t, how, heights)
			for _, i := range r.Perm(len(want.list)) {
				adds(t, m, want.list[i].seq, want.list[i].r, api.OK)
			}
			shows(t, m, want)
			from := someFrom(r)
			goes(t, "All", m.All(from), want.all(from))
			goes(t, "Back", m.Back(from), want.back(from))
			user, seq := someKey(r), someSeq(r)
			v, k, is := want.get(user, seq)
			gets(t, m, user, seq, v, k, is)
		}
	}
}

// P7.5: what comes at greater numbers changes nothing that one sees at a lesser one.
func TestGreaterNumbersAreNotSeen(t *testing.T) {
	for seed := range uint64(40) {
		r := chance(seed)
		how := r.IntN(2)
		m, now := fresh(t, how, someHeights(r)), uint64(15)
		for range 40 {
			m.Add(uint64(r.IntN(16)), someRecord(r))
		}
		type answer struct {
			value string
			kind  int
			is    bool
		}
		seen := map[string]answer{}
		for range 60 {
			k := someKey(r)
			v, kind, is := m.Get(k, now)
			seen[k] = answer{v, kind, is}
		}
		for range 80 {
			m.Add(now+1+uint64(r.IntN(20)), someRecord(r))
			for k, a := range seen {
				gets(t, m, k, now, a.value, a.kind, a.is)
			}
		}
	}
}

// P7.6: a map to which the records are done one by one, in which a key that a range took is told apart from one that was deleted.
func TestIsAMap(t *testing.T) {
	type has struct {
		value string
		kind  int
	}
	for seed := range uint64(60) {
		r := chance(seed)
		how := r.IntN(2)
		m, seq, is := fresh(t, how, someHeights(r)), uint64(0), map[string]has{}
		var users []string
		for range 200 {
			users = append(users, someKey(r))
		}
		for range 150 {
			x := someRecord(r)
			seq += 1 + uint64(r.IntN(3))
			adds(t, m, seq, x, api.OK)
			switch x.Kind {
			case api.Put:
				is[x.Key] = has{x.Value, api.Put}
			case api.Delete:
				is[x.Key] = has{"", api.Delete}
			case api.RangeDelete:
				for _, user := range users {
					if compare(how, x.Key, user) <= 0 && compare(how, user, x.Value) < 0 {
						is[user] = has{"", api.RangeDelete}
					}
				}
			}
			for _, user := range users {
				want, ok := is[user]
				gets(t, m, user, seq, want.value, want.kind, ok)
			}
		}
	}
}

// A full table of tombstones is asked in good time.
func TestManyTombstones(t *testing.T) {
	m := fresh(t, api.Bytewise, nil)
	name := func(i int) string { return strconv.Itoa(10000 + i) }
	for _, i := range chance(2).Perm(api.MaxMem) {
		adds(t, m, uint64(i+1), span(name(i), name(i+10)), api.OK)
	}
	for i := range api.MaxMem {
		gets(t, m, name(i), uint64(i+1), "", api.RangeDelete, true)
		gets(t, m, name(i), uint64(max(i-9, 0)), "", 0, false)
	}
	if l := m.Tombstones(); len(l) != api.MaxMem || l[0] != (api.Tombstone{Begin: name(0), End: name(10), Seq: 1}) {
		t.Errorf("%d tombstones", len(l))
	}
}
