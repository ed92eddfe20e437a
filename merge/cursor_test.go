package merge_test

import (
	"fmt"
	"slices"
	"testing"

	"sediment/api"
	"sediment/merge"
)

// at wants that a move was told to have found something, and that the cursor stands there.
func at(t *testing.T, what string, found bool, c *merge.Cursor, want api.Entry) {
	t.Helper()
	for range 2 {
		if e, is := c.Entry(); !found || !is || e != want {
			t.Fatalf("%s: %t, at %v, %t, want %v", what, found, e, is, want)
		}
	}
}

// nowhere wants that a move was told to have found nothing, and that the cursor stands nowhere.
func nowhere(t *testing.T, what string, found bool, c *merge.Cursor) {
	t.Helper()
	if e, is := c.Entry(); found || is || e != (api.Entry{}) {
		t.Fatalf("%s: %t, at %v, %t, want nowhere", what, found, e, is)
	}
	if c.Next() || c.Prev() {
		t.Fatalf("%s: moves from nowhere", what)
	}
	if e, is := c.Entry(); is || e != (api.Entry{}) {
		t.Fatalf("%s: at %v, %t, want nowhere", what, e, is)
	}
}

// P15.3: a new cursor stands nowhere; of a nil source there is nothing.
func TestNew(t *testing.T) {
	for _, how := range append(hows(), wrongHows()...) {
		c := merge.New(how, list(t, api.Bytewise, puts("ab", "x")))
		nowhere(t, "new", false, c)
		c = merge.New(how, nil)
		if c == nil {
			t.Fatal("no cursor of a nil source")
		}
		nowhere(t, "new of nil", false, c)
		nowhere(t, "First of nil", c.First(), c)
		nowhere(t, "Last of nil", c.Last(), c)
		nowhere(t, "Seek of nil", c.Seek(api.Key{}), c)
		nowhere(t, "Before of nil", c.Before(greatest(how)), c)
		c.Close()
		nowhere(t, "closed", false, c)
	}
}

// P15.3: of a source that has nothing, or answers no list: nowhere.
func TestCursorOfNothing(t *testing.T) {
	for _, how := range hows() {
		for _, s := range []merge.Source{list(t, how, nil), merge.Merged(how, nil), merge.Joined(how, nil, nil), mute{}} {
			c := merge.New(how, s)
			nowhere(t, "First", c.First(), c)
			nowhere(t, "Last", c.Last(), c)
			nowhere(t, "Seek", c.Seek(least(how)), c)
			nowhere(t, "Before", c.Before(greatest(how)), c)
		}
	}
}

// P15.3: First and Next go through all, Last and Prev the other way about, up to nowhere.
func TestFirstAndLast(t *testing.T) {
	for _, how := range hows() {
		l := slices.CompactFunc(sorted(how, mixed()), func(a, b api.Entry) bool { return a.Key == b.Key })
		c := merge.New(how, list(t, how, l))
		for i, e := range l {
			if i == 0 {
				at(t, "First", c.First(), c, e)
			} else {
				at(t, "Next", c.Next(), c, e)
			}
		}
		nowhere(t, "Next behind the last", c.Next(), c)
		for i := range l {
			if i == 0 {
				at(t, "Last", c.Last(), c, l[len(l)-1])
			} else {
				at(t, "Prev", c.Prev(), c, l[len(l)-1-i])
			}
		}
		nowhere(t, "Prev ahead of the first", c.Prev(), c)
	}
}

// P15.3: Seek stands at the first entry that is not ahead of the key, Before at the last that is not behind; a move that finds nothing leaves the cursor nowhere.
func TestSeekAndBefore(t *testing.T) {
	for _, how := range hows() {
		l := sorted(how, mixed())
		c := merge.New(how, list(t, how, l))
		for _, k := range keysAround(how, l) {
			if some := from(how, l, k); len(some) > 0 {
				at(t, fmt.Sprint("Seek ", k), c.Seek(k), c, some[0])
			} else {
				c.First()
				nowhere(t, fmt.Sprint("Seek ", k), c.Seek(k), c)
			}
			if some := back(how, l, k); len(some) > 0 {
				at(t, fmt.Sprint("Before ", k), c.Before(k), c, some[0])
			} else {
				c.First()
				nowhere(t, fmt.Sprint("Before ", k), c.Before(k), c)
			}
		}
	}
}

// P15.3: of entries with the same key Next leaves out those behind where it stands, Prev those ahead.
func TestMovesPastTheSameKey(t *testing.T) {
	for _, how := range hows() {
		one := []api.Entry{put("a", 5, "1"), put("a", 4, "1"), put("a", 3, "1")}
		two := []api.Entry{put("a", 4, "2"), put("a", 4, "2 again")}
		c := merge.New(how, merge.Merged(how, lists(t, how, one, two)))
		at(t, "First", c.First(), c, one[0])
		at(t, "Next", c.Next(), c, one[1])
		at(t, "Next", c.Next(), c, one[2])
		nowhere(t, "Next", c.Next(), c)
		at(t, "Last", c.Last(), c, one[2])
		at(t, "Prev", c.Prev(), c, two[1])
		at(t, "Prev", c.Prev(), c, one[0])
		nowhere(t, "Prev", c.Prev(), c)
		at(t, "Seek", c.Seek(one[1].Key), c, one[1])
		at(t, "Prev", c.Prev(), c, one[0])
		at(t, "Before", c.Before(one[1].Key), c, two[1])
		at(t, "Next", c.Next(), c, one[2])
	}
}

// P15.3: Close puts it nowhere; it goes on from there as a new one.
func TestClose(t *testing.T) {
	c := merge.New(api.Bytewise, list(t, api.Bytewise, puts("abc", "x")))
	c.Close()
	nowhere(t, "closed", false, c)
	at(t, "Seek", c.Seek(key("b", 9, 1)), c, puts("b", "x")[0])
	c.Close()
	c.Close()
	nowhere(t, "closed", false, c)
	at(t, "First", c.First(), c, puts("a", "x")[0])
	at(t, "Next", c.Next(), c, puts("b", "x")[0])
}

// P15.3, "All of a source": First and Last ask for all by the keys that the chapter names, the further ones from where they stand.
func TestWhatACursorAsks(t *testing.T) {
	for _, how := range append(hows(), wrongHows()...) {
		p := &probe{Source: wild{puts("a", "x"), 1}}
		c := merge.New(how, p)
		if len(p.asks) != 0 {
			t.Error("New asks")
		}
		c.First()
		c.Last()
		c.Seek(key("q", 3, 2))
		c.Before(key("r", 4, 1))
		c.Entry()
		c.Close()
		h := how
		if how != api.Reverse {
			h = api.Bytewise
		}
		if want := []ask{{least(h), false}, {greatest(h), true}, {key("q", 3, 2), false}, {key("r", 4, 1), true}}; !slices.Equal(p.asks, want) {
			t.Errorf("by %d: %.30v", how, p.asks)
		}
	}
}

// P15.3: all of a source is what has a user key of up to MaxKey bytes, whatever these are.
func TestFirstAndLastOfGreatKeys(t *testing.T) {
	for _, how := range hows() {
		for _, n := range []int{0, 1, 2, api.MaxKey - 1, api.MaxKey} {
			for _, b := range []byte{0, 'a', 254, 255} {
				u := string(slices.Repeat([]byte{b}, n))
				l := []api.Entry{put(u, api.MaxSeq, "1"), put(u, 0, "2")}
				l[0].Kind, l[1].Kind = api.RangeDelete, api.Delete
				c := merge.New(how, list(t, how, l))
				at(t, "First", c.First(), c, l[0])
				at(t, "Last", c.Last(), c, l[1])
			}
		}
	}
}

// P15.3: a move reads the source no further than to where it leads.
func TestCursorReadsNoFurther(t *testing.T) {
	p := &probe{Source: list(t, api.Bytewise, puts("abcdefgh", "x"))}
	c := merge.New(api.Bytewise, p)
	for _, m := range []struct {
		move func() bool
		most int
	}{{c.First, 1}, {c.Next, 2}, {c.Next, 2}, {c.Prev, 2}, {c.Last, 1}, {c.Prev, 2}, {func() bool { return c.Seek(key("d", 5, 1)) }, 1}, {func() bool { return c.Before(key("d", 5, 1)) }, 1}} {
		if p.most = 0; !m.move() || p.most > m.most {
			t.Errorf("read %d, want at most %d", p.most, m.most)
		}
	}
}

// Two cursors of one source know nothing of one another.
func TestTwoCursors(t *testing.T) {
	s := list(t, api.Bytewise, puts("abc", "x"))
	c, d := merge.New(api.Bytewise, s), merge.New(api.Bytewise, s)
	at(t, "First", c.First(), c, puts("a", "x")[0])
	nowhere(t, "the other one", false, d)
	at(t, "Last", d.Last(), d, puts("c", "x")[0])
	at(t, "Next", c.Next(), c, puts("b", "x")[0])
	c.Close()
	at(t, "Prev", d.Prev(), d, puts("b", "x")[0])
}

// Ends: a cursor of a source that is not sorted, or does not hear from where on, tells what it may and does not panic.
func TestCursorOfWildSources(t *testing.T) {
	for _, how := range []int{api.Bytewise, api.Reverse, 3} {
		c := merge.New(how, wild{puts("cabzza", "x"), 3})
		for _, move := range []func() bool{c.First, c.Next, c.Next, c.Next, c.Next, c.Next, c.Next, c.Next, c.Next, c.Last, c.Prev, c.Prev, c.Prev, c.Prev, c.Prev, c.Prev} {
			found := move()
			if e, is := c.Entry(); is != found || !is && e != (api.Entry{}) {
				t.Errorf("told %t, stands %t at %v", found, is, e)
			}
		}
	}
}

// The zero value does not panic.
func TestZeroCursor(t *testing.T) {
	var c merge.Cursor
	c.First()
	c.Last()
	c.Seek(api.Key{})
	c.Before(api.Key{})
	c.Next()
	c.Prev()
	c.Entry()
	c.Close()
}

// A source that panics does so through the move, and the cursor stands where it stood.
func TestCursorOfOneThatPanics(t *testing.T) {
	asks := 1
	c := merge.New(api.Bytewise, moody{list(t, api.Bytewise, puts("abc", "x")), &asks})
	at(t, "First", c.First(), c, puts("a", "x")[0])
	if p := panics(func() { c.Next() }); p != "moody" {
		t.Errorf("%q", p)
	}
	asks = 9
	at(t, "Next", c.Next(), c, puts("b", "x")[0])
}
