package block_test

import (
	"math"
	"slices"
	"testing"

	"sediment/api"
	"sediment/block"
)

// P8.3: of no entries.
func TestBlockOfNothing(t *testing.T) {
	for _, how := range hows() {
		x := opened(t, how, built(t, how, 4, nil))
		has(t, x, nil, 1)
		for _, k := range []api.Key{{}, key("a", 1, 1), key(text(2000), math.MaxUint64, math.MinInt)} {
			tells(t, x, how, nil, k)
		}
	}
}

// P8.3: known answers.
func TestBlockTells(t *testing.T) {
	l := []api.Entry{put("a", 9, "1"), put("a", 7, "2"), entry("a", 7, api.Delete, "3"), put("ab", 3, ""), put("b", 9, "5")}
	for _, restart := range restarts() {
		x := opened(t, api.Bytewise, built(t, api.Bytewise, restart, l))
		has(t, x, l, (5+restart-1)/restart)
		for _, y := range l {
			if v, is := x.Get(y.Key); v != y.Value || !is {
				t.Errorf("Get(%v) = %q, %t", y.Key, v, is)
			}
		}
		for _, k := range []api.Key{{}, key("a", 8, 1), key("a", 9, 0), key("a", 9, 2), key("aa", 9, 1), key("ab", 3, 3), key("b", 9, -1), key("c", 9, 1), key("a", 1<<56+9, 1)} {
			if v, is := x.Get(k); v != "" || is {
				t.Errorf("Get(%v) = %q, %t", k, v, is)
			}
		}
		for _, c := range []struct {
			from      api.Key
			seek      int // the number of the entry, 5 if there is none
			back      int // how many are gone through
			backFirst int
		}{
			{key("", 0, 0), 0, 0, -1},
			{key("a", 10, 1), 0, 0, -1},
			{key("a", 9, 2), 0, 0, -1},
			{key("a", 9, 1), 0, 1, 0},
			{key("a", 9, 0), 1, 1, 0},
			{key("a", 8, 1), 1, 1, 0},
			{key("a", 7, 1), 1, 2, 1},
			{key("a", 7, 0), 2, 3, 2},
			{key("a", 7, -1), 3, 3, 2},
			{key("a", 0, 0), 3, 3, 2},
			{key("aa", 5, 1), 3, 3, 2},
			{key("ab", math.MaxUint64, math.MaxInt), 3, 3, 2},
			{key("ab", 3, 1), 3, 4, 3},
			{key("ab", 0, math.MinInt), 4, 4, 3},
			{key("b", 9, 1), 4, 5, 4},
			{key("b", 8, 1), 5, 5, 4},
			{key(text(3000), 0, 0), 5, 5, 4},
		} {
			goes(t, "All", x.All(c.from), l[c.seek:])
			y, is := x.Seek(c.from)
			if is != (c.seek < 5) || is && y != l[c.seek] || !is && y != (api.Entry{}) {
				t.Errorf("Seek(%v) = %v, %t", c.from, y, is)
			}
			turned := slices.Clone(l[:c.back])
			slices.Reverse(turned)
			goes(t, "Back", x.Back(c.from), turned)
			if len(turned) > 0 && turned[0] != l[c.backFirst] {
				t.Errorf("Back(%v) begins with %v", c.from, turned[0])
			}
		}
	}
}

// P8.3: by the other comparator.
func TestBlockTellsReverse(t *testing.T) {
	l := []api.Entry{put("b", 9, "5"), put("ab", 3, ""), put("a", 9, "1"), put("a", 7, "2")}
	for _, restart := range restarts() {
		x := opened(t, api.Reverse, built(t, api.Reverse, restart, l))
		has(t, x, l, (4+restart-1)/restart)
		goes(t, "All", x.All(key("c", 0, 0)), l)
		goes(t, "All", x.All(key("b", 8, 1)), l[1:])
		goes(t, "All", x.All(key("aa", 8, 1)), l[2:])
		goes(t, "All", x.All(key("", 0, 0)), nil)
		goes(t, "Back", x.Back(key("ab", 3, 1)), []api.Entry{l[1], l[0]})
		goes(t, "Back", x.Back(key("c", 0, 0)), nil)
		goes(t, "Back", x.Back(key("", 0, 0)), []api.Entry{l[3], l[2], l[1], l[0]})
	}
}

// P8.3: what is gone through may be ended anywhere, gone through again, and one within another.
func TestBlockIsGoneThrough(t *testing.T) {
	l := []api.Entry{put("a", 9, "1"), put("ab", 9, "2"), put("abc", 9, "3"), put("b", 9, "4"), put("bc", 9, "5")}
	turned := slices.Clone(l)
	slices.Reverse(turned)
	for _, restart := range []int{1, 2, 3, 16} {
		x := opened(t, api.Bytewise, built(t, api.Bytewise, restart, l))
		all, back := x.All(api.Key{}), x.Back(key("z", 0, 0))
		for range 2 {
			for n := range len(l) {
				var up, down []api.Entry
				for y := range all {
					up = append(up, y)
					if len(up) > n {
						break
					}
				}
				for y := range back {
					down = append(down, y)
					if len(down) > n {
						break
					}
				}
				if !slices.Equal(up, l[:n+1]) || !slices.Equal(down, turned[:n+1]) {
					t.Errorf("ended behind %d: %v and %v", n+1, up, down)
				}
			}
			goes(t, "All", all, l)
			goes(t, "Back", back, turned)
		}
		for y := range all {
			goes(t, "All within All", all, l)
			for range back {
				goes(t, "Back within Back", back, turned)
			}
			tells(t, x, api.Bytewise, l, y.Key)
		}
	}
}

// P8.3: an answer is new.
func TestBlockSharesNothing(t *testing.T) {
	l := []api.Entry{put("a", 9, "1"), put("ab", 9, "2"), put("b", 9, "3")}
	x := opened(t, api.Bytewise, built(t, api.Bytewise, 2, l))
	got := x.Entries()
	clear(got[:cap(got)])
	has(t, x, l, 2)
	one, other := x.Entries(), x.Entries()
	clear(one[:cap(one)])
	if !slices.Equal(other, l) {
		t.Errorf("%v, want %v", other, l)
	}
}

// P8.3: blocks know nothing of one another.
func TestBlocksAreApart(t *testing.T) {
	b := built(t, api.Bytewise, 2, []api.Entry{put("a", 9, "1")})
	x := opened(t, api.Bytewise, b)
	y := opened(t, api.Reverse, b)
	z := opened(t, api.Reverse, built(t, api.Reverse, 2, []api.Entry{put("b", 9, "2"), put("a", 9, "1")}))
	goes(t, "x", x.All(key("b", 9, 1)), nil)
	goes(t, "y", y.All(key("b", 9, 1)), []api.Entry{put("a", 9, "1")})
	goes(t, "z", z.All(key("b", 9, 1)), []api.Entry{put("b", 9, "2"), put("a", 9, "1")})
	if e := block.Check(api.Bytewise, b); e != api.OK {
		t.Error(e)
	}
}
