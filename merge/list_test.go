package merge_test

import (
	"fmt"
	"slices"
	"strings"
	"testing"

	"sediment/api"
	"sediment/merge"
)

// mixed are entries with several keys and numbers, some of them twice.
func mixed() []api.Entry {
	return []api.Entry{
		{Key: key("", 3, api.Put), Value: "1"},
		{Key: key("a", 9, api.Put), Value: "2"},
		{Key: key("a", 7, api.RangeDelete), Value: "3"},
		{Key: key("a", 7, api.Put), Value: "4"},
		{Key: key("a", 7, api.Put), Value: "5"},
		{Key: key("a", 7, api.Delete), Value: "6"},
		{Key: key("a\x00", 9, api.Put), Value: "7"},
		{Key: key("ab", 1, api.Put), Value: "8"},
		{Key: key("b", 0, api.Delete)},
		{Key: key("b", 0, api.Delete)},
		{Key: key("\xff", api.MaxSeq, api.Put), Value: "9"},
	}
}

// P15.1: a List goes through its entries from a key on, either way.
func TestList(t *testing.T) {
	for _, how := range hows() {
		l := sorted(how, mixed())
		tells(t, how, list(t, how, l), l)
		for n := range l {
			tells(t, how, list(t, how, l[:n]), l[:n])
		}
	}
}

// P15.1: All and Back of the examples' keys, written out.
func TestListWrittenOut(t *testing.T) {
	s := list(t, api.Bytewise, puts("bdf", "x"))
	r := list(t, api.Reverse, puts("fdb", "x"))
	for _, c := range []struct {
		s          merge.Source
		k          api.Key
		all, turns string
	}{
		{s, key("d", 5, api.Put), "df", "db"}, {s, key("d", 6, api.Put), "df", "b"}, {s, key("d", 4, api.Put), "f", "db"},
		{s, key("d", 5, api.RangeDelete), "df", "b"}, {s, key("d", 5, api.Delete), "f", "db"},
		{s, key("a", 5, api.Put), "bdf", ""}, {s, key("g", 5, api.Put), "", "fdb"}, {s, key("e", 5, api.Put), "f", "db"},
		{r, key("d", 5, api.Put), "db", "df"}, {r, key("d", 6, api.Put), "db", "f"}, {r, key("d", 4, api.Put), "b", "df"},
		{r, key("a", 5, api.Put), "", "bdf"}, {r, key("g", 5, api.Put), "fdb", ""}, {r, key("e", 5, api.Put), "db", "f"},
	} {
		alike(t, fmt.Sprint("All ", c.k), slices.Collect(c.s.All(c.k)), puts(c.all, "x"))
		alike(t, fmt.Sprint("Back ", c.k), slices.Collect(c.s.Back(c.k)), puts(c.turns, "x"))
	}
}

// P15.1: a List of nothing is a source that has nothing.
func TestListOfNothing(t *testing.T) {
	for _, how := range hows() {
		tells(t, how, list(t, how, nil), nil)
		tells(t, how, list(t, how, []api.Entry{}), nil)
	}
}

// refused wants ErrArg, and none beside it.
func refused(t *testing.T, how int, l []api.Entry) {
	t.Helper()
	if s, e := merge.List(how, l); s != nil || e != api.ErrArg {
		t.Errorf("List(%d, %s): nil %t, %d, want ErrArg", how, show(l), s == nil, e)
	}
}

// P15.1: ErrArg, if how is no comparator, whatever the list.
func TestListByWrongHow(t *testing.T) {
	for _, how := range wrongHows() {
		refused(t, how, nil)
		refused(t, how, puts("ab", ""))
		refused(t, how, puts("ba", ""))
	}
}

// P15.1: ErrArg, if the list falls anywhere: by a user key, a number, a kind.
func TestListThatFalls(t *testing.T) {
	refused(t, api.Bytewise, puts("ba", ""))
	refused(t, api.Bytewise, puts("abcb", ""))
	refused(t, api.Reverse, puts("ab", ""))
	refused(t, api.Reverse, puts("dcbc", ""))
	for _, how := range hows() {
		refused(t, how, []api.Entry{put("a", 5, ""), put("a", 6, "")})
		refused(t, how, []api.Entry{{Key: key("a", 5, api.Delete)}, {Key: key("a", 5, api.Put)}})
		refused(t, how, []api.Entry{{Key: key("a", 5, api.Put)}, {Key: key("a", 5, api.RangeDelete)}})
		l := sorted(how, mixed())
		for i := 1; i < len(l); i++ {
			x := slices.Clone(l)
			if x[i-1], x[i] = x[i], x[i-1]; x[i-1].Key != x[i].Key {
				refused(t, how, x)
			}
		}
	}
}

// P15.1: the same key twice is let be, and the entries stay as they stood.
func TestListWithTheSameTwice(t *testing.T) {
	for _, how := range hows() {
		l := []api.Entry{put("a", 5, "2"), put("a", 5, "1"), put("a", 5, "2"), put("a", 5, "")}
		tells(t, how, list(t, how, l), l)
	}
}

// P15.1: List asks nothing of the entries but that they don't fall.
func TestListOfKeysThatCanNotBe(t *testing.T) {
	long := strings.Repeat("x", api.MaxKey+1)
	l := []api.Entry{
		{Key: key("a", 1<<63, 77), Value: strings.Repeat("v", api.MaxValue+1)},
		{Key: key("a", api.MaxSeq+1, -5)},
		{Key: key(long, 1, api.Put)},
	}
	s := list(t, api.Bytewise, l)
	alike(t, "All", slices.Collect(s.All(key("", 0, 0))), l)
	slices.Reverse(l)
	alike(t, "Back", slices.Collect(s.Back(key("y", 0, 0))), l)
}

// P15.1: the list may be changed once it was handed in.
func TestListIsNotKept(t *testing.T) {
	for _, how := range hows() {
		l := sorted(how, mixed())
		mine := append(make([]api.Entry, 0, 99), l...)
		s := list(t, how, mine)
		clear(mine[:cap(mine)])
		tells(t, how, s, l)
	}
}

// P15.1: what List is handed in is not changed, its spare room included.
func TestListChangesNothing(t *testing.T) {
	l := append(puts("ab", "x"), puts("cd", "y")...)
	s := list(t, api.Bytewise, l[:2])
	tells(t, api.Bytewise, s, l[:2])
	alike(t, "the list", l, append(puts("ab", "x"), puts("cd", "y")...))
}

// P15.1: a List is gone through several times, one within the other, and ended at any place.
func TestListManyTimes(t *testing.T) {
	l := sorted(api.Bytewise, mixed())
	s := list(t, api.Bytewise, l)
	turned := back(api.Bytewise, l, greatest(api.Bytewise))
	all, back := s.All(least(api.Bytewise)), s.Back(greatest(api.Bytewise))
	for n := 1; n <= len(l); n++ {
		alike(t, "All", some(all, n), l[:n])
		alike(t, "Back", some(back, n), turned[:n])
	}
	for range all {
		alike(t, "Back within All", slices.Collect(back), turned)
		alike(t, "All within All", slices.Collect(all), l)
	}
}
