package merge_test

import (
	"fmt"
	"iter"
	"slices"
	"testing"

	"sediment/api"
	"sediment/merge"
)

// opener opens sources, and notes which.
type opener struct {
	sources []merge.Source
	opened  []int
}

func (o *opener) open(i int) merge.Source {
	o.opened = append(o.opened, i)
	return o.sources[i]
}

// lasts are the last keys of lists.
func lasts(l ...[]api.Entry) []api.Key {
	var ends []api.Key
	for _, x := range l {
		ends = append(ends, x[len(x)-1].Key)
	}
	return ends
}

// chain is a Joined of lists that lie one behind the other.
func chain(t *testing.T, how int, ends []api.Key, l ...[]api.Entry) (merge.Source, *opener) {
	t.Helper()
	o := &opener{sources: lists(t, how, l...)}
	return merge.Joined(how, ends, o.open), o
}

// pieces are a sorted list cut into so many entries each, but never between those with the same key.
func pieces(l []api.Entry, size int) [][]api.Entry {
	var parts [][]api.Entry
	for len(l) > 0 {
		n := min(size, len(l))
		for n < len(l) && l[n].Key == l[n-1].Key {
			n++
		}
		parts, l = append(parts, l[:n]), l[n:]
	}
	return parts
}

// P15.2: Joined tells all its sources have, one behind the other, from any key on, either way.
func TestJoined(t *testing.T) {
	for _, how := range hows() {
		l := sorted(how, mixed())
		for size := 1; size <= len(l); size++ {
			parts := pieces(l, size)
			s, _ := chain(t, how, lasts(parts...), parts...)
			tells(t, how, s, l)
		}
	}
}

// P15.2: ends may lie behind the last entries; what is asked for between is in the next one.
func TestJoinedWithEndsBehind(t *testing.T) {
	for _, how := range hows() {
		parts := [][]api.Entry{puts("ab", "x"), nil, puts("gh", "x"), puts("k", "x")}
		users := "cfim"
		if how == api.Reverse {
			parts = [][]api.Entry{puts("mk", "x"), nil, puts("fe", "x"), puts("a", "x")}
			users = "khc\x00"
		}
		var ends []api.Key
		for _, u := range users {
			ends = append(ends, key(string(u), 5, api.Put))
		}
		s, _ := chain(t, how, ends, parts...)
		tells(t, how, s, slices.Concat(parts...))
	}
}

// opens wants what is told of a going through that is ended behind n entries (0: not at all), and which sources are opened for it, in which order.
func opens(t *testing.T, what string, l iter.Seq[api.Entry], o *opener, n int, letters string, opened ...int) {
	t.Helper()
	o.opened = nil
	alike(t, what, some(l, n), puts(letters, "x"))
	if !slices.Equal(o.opened, opened) {
		t.Errorf("%s, ended behind %d: opened %v, want %v", what, n, o.opened, opened)
	}
}

// P15.2, P15.6: from the first source on whose end is not ahead of from; each is opened when it is come to, and once.
func TestJoinedOpensWhatItComesTo(t *testing.T) {
	parts := [][]api.Entry{puts("ab", "x"), puts("de", "x"), puts("gh", "x")}
	s, o := chain(t, api.Bytewise, lasts(parts...), parts...)
	if s.All(key("a", 9, 1)); len(o.opened) != 0 {
		t.Error("opened ahead of being gone through")
	}
	if s.Back(key("z", 9, 1)); len(o.opened) != 0 {
		t.Error("opened ahead of being gone through")
	}
	for _, c := range []struct {
		k       api.Key
		n       int
		letters string
		opened  []int
	}{
		{key("a", 9, 1), 0, "abdegh", []int{0, 1, 2}}, {key("a", 9, 1), 1, "a", []int{0}}, {key("a", 9, 1), 2, "ab", []int{0}},
		{key("a", 9, 1), 3, "abd", []int{0, 1}}, {key("a", 9, 1), 4, "abde", []int{0, 1}}, {key("a", 9, 1), 5, "abdeg", []int{0, 1, 2}},
		{key("b", 6, 1), 0, "bdegh", []int{0, 1, 2}}, {key("b", 5, 1), 0, "bdegh", []int{0, 1, 2}}, {key("b", 5, 0), 0, "degh", []int{1, 2}},
		{key("b", 4, 1), 1, "d", []int{1}}, {key("c", 5, 1), 2, "de", []int{1}}, {key("e", 5, 1), 2, "eg", []int{1, 2}},
		{key("h", 5, 1), 0, "h", []int{2}}, {key("h", 4, 1), 0, "", nil}, {key("i", 5, 1), 0, "", nil}, {least(api.Bytewise), 1, "a", []int{0}}, {greatest(api.Bytewise), 0, "", nil},
	} {
		opens(t, fmt.Sprint("All ", c.k), s.All(c.k), o, c.n, c.letters, c.opened...)
	}
	for _, c := range []struct {
		k       api.Key
		n       int
		letters string
		opened  []int
	}{
		{key("z", 9, 1), 0, "hgedba", []int{2, 1, 0}}, {key("z", 9, 1), 1, "h", []int{2}}, {key("h", 5, 1), 2, "hg", []int{2}}, {key("h", 5, 1), 3, "hge", []int{2, 1}},
		{key("h", 6, 1), 1, "g", []int{2}}, {key("f", 5, 1), 0, "edba", []int{2, 1, 0}}, {key("f", 5, 1), 1, "e", []int{2, 1}},
		{key("e", 5, 1), 1, "e", []int{1}}, {key("e", 5, 0), 1, "e", []int{2, 1}}, {key("e", 6, 1), 1, "d", []int{1}}, {key("d", 6, 1), 0, "ba", []int{1, 0}},
		{key("b", 5, 1), 0, "ba", []int{0}}, {key("a", 6, 1), 0, "", []int{0}}, {greatest(api.Bytewise), 5, "hgedb", []int{2, 1, 0}}, {least(api.Bytewise), 0, "", []int{0}},
	} {
		opens(t, fmt.Sprint("Back ", c.k), s.Back(c.k), o, c.n, c.letters, c.opened...)
	}
}

// P15.2: each source is asked for the same from.
func TestJoinedAsksForTheSame(t *testing.T) {
	all, sources := probes(t, api.Bytewise, puts("ab", "x"), puts("de", "x"), puts("gh", "x"))
	s := merge.Joined(api.Bytewise, lasts(puts("ab", "x"), puts("de", "x"), puts("gh", "x")), func(i int) merge.Source { return sources[i] })
	through(s.All(key("d", 9, 1)))
	through(s.Back(key("f", 3, 2)))
	for i, want := range [][]ask{{{key("f", 3, 2), true}}, {{key("d", 9, 1), false}, {key("f", 3, 2), true}}, {{key("d", 9, 1), false}, {key("f", 3, 2), true}}} {
		if !slices.Equal(all[i].asks, want) {
			t.Errorf("source %d was asked %v, want %v", i, all[i].asks, want)
		}
	}
}

// P15.2: a nil source has no entries, nor has one that answers no list; of a nil open, of no ends: nothing.
func TestJoinedOfNone(t *testing.T) {
	for _, how := range append(hows(), wrongHows()...) {
		for _, ends := range [][]api.Key{nil, {}, {key("a", 5, 1)}, {key("a", 5, 1), key("b", 5, 1)}} {
			tells(t, how, merge.Joined(how, ends, nil), nil)
			tells(t, how, merge.Joined(how, ends, func(int) merge.Source { return nil }), nil)
			tells(t, how, merge.Joined(how, ends, func(int) merge.Source { return mute{} }), nil)
		}
	}
	l := puts("abef", "x")
	o := &opener{sources: []merge.Source{nil, list(t, api.Bytewise, l[:2]), nil, mute{}, list(t, api.Bytewise, l[2:]), nil}}
	s := merge.Joined(api.Bytewise, []api.Key{key("a", 9, 1), key("b", 5, 1), key("c", 5, 1), key("d", 5, 1), key("f", 5, 1), key("g", 5, 1)}, o.open)
	tells(t, api.Bytewise, s, l)
}

// P15.2: open is asked for the numbers of ends alone.
func TestJoinedOpensNoOther(t *testing.T) {
	for _, how := range hows() {
		for n := range 5 {
			var ends []api.Key
			for i := range n {
				ends = append(ends, key("a", uint64(9-i), 1))
			}
			s := merge.Joined(how, ends, func(i int) merge.Source {
				if i < 0 || i >= n {
					t.Errorf("%d ends: opened %d", n, i)
				}
				return nil
			})
			tells(t, how, s, nil)
		}
	}
}

// P15.2: ends may be changed once they were handed in, and are not changed.
func TestJoinedKeepsNoList(t *testing.T) {
	parts := [][]api.Entry{puts("ab", "x"), puts("de", "x")}
	ends := append(lasts(parts...), key("z", 1, 1))
	s, _ := chain(t, api.Bytewise, ends[:2], parts...)
	tells(t, api.Bytewise, s, puts("abde", "x"))
	if want := append(lasts(parts...), key("z", 1, 1)); !slices.Equal(ends, want) {
		t.Errorf("ends were changed: %v", ends)
	}
	clear(ends)
	tells(t, api.Bytewise, s, puts("abde", "x"))
}

// P15.2: a how that is none is as Bytewise, as in codec.Order.
func TestJoinedByWrongHow(t *testing.T) {
	for _, how := range wrongHows() {
		parts := [][]api.Entry{puts("ab", "x"), puts("de", "x")}
		o := &opener{sources: lists(t, api.Bytewise, parts...)}
		tells(t, api.Bytewise, merge.Joined(how, lasts(parts...), o.open), puts("abde", "x"))
	}
}

// P15.2: with entries and ends that are not as they should be nothing panics, and it ends.
func TestJoinedOfWildSources(t *testing.T) {
	for _, how := range append(hows(), 9) {
		for _, ends := range [][]api.Key{
			{key("c", 5, 1), key("a", 5, 1), key("b", 5, 1)}, {key("a", 5, 1), key("a", 5, 1), key("a", 5, 1)}, {{}, {}, {}}, {key("z", 1<<63, -7), key("a", 1<<63, 99), {}},
		} {
			s := merge.Joined(how, ends, func(i int) merge.Source {
				return []merge.Source{wild{puts("cabz", "x"), 2}, mute{}, wild{puts("aaaa", "y"), 3}}[i]
			})
			for _, k := range keysAround(how, puts("abcz", "x")) {
				if n := len(slices.Collect(s.All(k))) + len(slices.Collect(s.Back(k))); n > 60 {
					t.Errorf("%d entries", n)
				}
				through(merge.Merged(how, []merge.Source{s, s}).All(k))
				c := merge.New(how, s)
				c.Seek(k)
				c.Next()
				c.Prev()
			}
		}
	}
}

// P15.2: Joined is gone through several times, one within the other; it opens anew for each.
func TestJoinedManyTimes(t *testing.T) {
	parts := [][]api.Entry{puts("ab", "x"), puts("de", "x"), puts("gh", "x")}
	s, o := chain(t, api.Bytewise, lasts(parts...), parts...)
	all, back := s.All(least(api.Bytewise)), s.Back(greatest(api.Bytewise))
	for range 3 {
		opens(t, "All", all, o, 3, "abd", 0, 1)
		opens(t, "Back", back, o, 3, "hge", 2, 1)
	}
	n := 0
	for range all {
		n++
		opens(t, "Back within All", back, o, 0, "hgedba", 2, 1, 0)
		opens(t, "All within All", all, o, 0, "abdegh", 0, 1, 2)
	}
	if n != 6 {
		t.Errorf("%d entries", n)
	}
}

// An open that panics does so through the call; then Joined works as ahead.
func TestJoinedWhoseOpenPanics(t *testing.T) {
	bad := true
	parts := lists(t, api.Bytewise, puts("ab", "x"), puts("de", "x"))
	s := merge.Joined(api.Bytewise, lasts(puts("ab", "x"), puts("de", "x")), func(i int) merge.Source {
		if bad && i == 1 {
			panic("shut")
		}
		return parts[i]
	})
	if p := panics(func() { through(s.All(least(api.Bytewise))) }); p != "shut" {
		t.Errorf("%q", p)
	}
	alike(t, "All", some(s.All(least(api.Bytewise)), 2), puts("ab", "x"))
	bad = false
	tells(t, api.Bytewise, s, puts("abde", "x"))
}
