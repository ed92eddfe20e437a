package cache_test

import (
	"hash/fnv"
	"math"
	"slices"
	"strconv"
	"testing"

	"sediment/api"
	"sediment/cache"
)

// P11.1: how many shards there may be.
func TestNew(t *testing.T) {
	for shards := 1; shards <= 64; shards++ {
		for _, strict := range []bool{false, true} {
			for _, room := range []uint64{0, 1, 1000, most} {
				c := fresh(t, shards, room, strict)
				counts(t, c, 0, 0, 0)
				for s := range shards {
					lists(t, c, s, "")
				}
				lacks(t, c, "")
				lacks(t, c, "a")
			}
		}
	}
}

// P11.1
func TestNewOfShardsThatCantBe(t *testing.T) {
	for _, shards := range []int{0, -1, -64, 65, 128, 1 << 20, 256 + 1, 1<<32 + 1, math.MaxInt, math.MinInt} {
		for _, strict := range []bool{false, true} {
			if c, e := cache.New[int](shards, 10, strict); c != nil || e != api.ErrArg {
				t.Errorf("New(%d, 10, %t): %v, %d", shards, strict, c, e)
			}
		}
	}
}

// P11.1: each key's number, by as many shards as tell all its bits.
func TestShardOfKnownKeys(t *testing.T) {
	for key, h := range map[string]uint32{"": 0x811c9dc5, "a": 0xe40c292c, "b": 0xe70c2de5, "foobar": 0xbf9cf968, "\x00": 0x050c5d1f, "\xff": 0x7a0b824e} {
		for shards := 1; shards <= 64; shards++ {
			if got, want := fresh(t, shards, 0, false).Shard(key), int(h%uint32(shards)); got != want {
				t.Errorf("Shard(%q) of %d: %d, want %d", key, shards, got, want)
			}
		}
	}
}

// P11.1: bytes are taken one by one, whether they are text or not, and however many there are.
func TestShardOfAnyKey(t *testing.T) {
	r := chance(1)
	keys := []string{"é", "e\u0301", "\ufffd", "\xc3", "ab", "ba", text(api.MaxKey), text(api.MaxKey + 1), text(100000)}
	for range 300 {
		b := make([]byte, r.IntN(30))
		for i := range b {
			b[i] = byte(r.IntN(256))
		}
		keys = append(keys, string(b))
	}
	for shards := 1; shards <= 64; shards++ {
		c := fresh(t, shards, 0, false)
		for _, key := range keys {
			h := fnv.New32a()
			h.Write([]byte(key))
			if got, want := c.Shard(key), int(h.Sum32()%uint32(shards)); got != want {
				t.Errorf("Shard of %d bytes of %d: %d, want %d", len(key), shards, got, want)
			}
		}
	}
}

// P11.1: less room lets those go that wait, and only as many as must.
func TestRoom(t *testing.T) {
	c := fresh(t, 1, 100, false)
	waits(t, c, 4, "a", "b", "c", "d")
	c.Room(16)
	lists(t, c, 0, "abcd")
	c.Room(15)
	lists(t, c, 0, "bcd")
	c.Room(4)
	lists(t, c, 0, "d")
	counts(t, c, 4, 0, 1)
	c.Room(12)
	waits(t, c, 4, "e", "f")
	lists(t, c, 0, "def")
	waits(t, c, 4, "g")
	lists(t, c, 0, "efg")
	c.Room(0)
	counts(t, c, 0, 0, 0)
}

// P11.1: what is pinned stays, whatever room there is; more of what waits goes in its stead.
func TestRoomBesidePins(t *testing.T) {
	c := fresh(t, 1, 100, true)
	a := puts(t, c, "a", "A", 10)
	waits(t, c, 4, "b", "c")
	c.Room(14)
	lists(t, c, 0, "c")
	c.Room(13)
	lists(t, c, 0, "")
	c.Room(0)
	counts(t, c, 10, 10, 1)
	holds(t, c, a, "A")
	refuses(t, c, "d", 1, api.ErrFull)
	frees(t, c, a)
	counts(t, c, 0, 0, 0)
}

// P11.1: a shard's room is its part of the whole, without the fraction.
func TestRoomOfEachShard(t *testing.T) {
	for _, x := range []struct {
		shards int
		room   uint64
		each   uint64
	}{{1, 10, 10}, {2, 10, 5}, {2, 11, 5}, {3, 11, 3}, {7, 48, 6}, {7, 49, 7}, {64, 63, 0}, {64, 64, 1}, {64, 127, 1}, {2, most, 1<<63 - 1}, {3, most, most / 3}} {
		changed := fresh(t, x.shards, 1, true)
		changed.Room(x.room)
		for _, c := range []*cache.Cache[string]{fresh(t, x.shards, x.room, true), changed} {
			for _, key := range []string{"a", "b", "c", "d"} {
				refuses(t, c, key, x.each+1, api.ErrFull)
				pin := puts(t, c, key, "", x.each)
				refuses(t, c, key, 1, api.ErrFull)
				frees(t, c, pin)
				c.Drop(key)
			}
		}
	}
}

// P11.1: room is made in each shard.
func TestRoomInEachShard(t *testing.T) {
	c := fresh(t, 4, 4000, false)
	for i := range 100 {
		waits(t, c, 1, strconv.Itoa(i))
	}
	before := make([][]string, 4)
	for s := range before {
		before[s] = c.Keys(s)
		if len(before[s]) < 10 {
			t.Fatalf("only %d keys in the shard %d", len(before[s]), s)
		}
	}
	c.Room(23)
	for s, l := range before {
		if got := c.Keys(s); !slices.Equal(got, l[len(l)-5:]) {
			t.Errorf("Keys(%d): %q of %q", s, got, l)
		}
	}
	counts(t, c, 20, 0, 20)
}

// P11.2: how long a key may be. One that is too long is told first, and nothing goes for it.
func TestPutOfLongKeys(t *testing.T) {
	for _, strict := range []bool{false, true} {
		c := fresh(t, 1, 10, strict)
		waits(t, c, 5, "a", "b")
		for _, n := range []int{api.MaxKey + 1, api.MaxKey + 2, 100000} {
			for _, charge := range []uint64{0, 1, 11, most} {
				refuses(t, c, text(n), charge, api.ErrLong)
			}
			lacks(t, c, text(n))
			if c.Drop(text(n)) {
				t.Errorf("a key of %d bytes was in", n)
			}
		}
		lists(t, c, 0, "ab")
		if pin := puts(t, c, text(api.MaxKey), "long", 1); pin != 3 {
			t.Errorf("the third pin is %d", pin)
		}
		frees(t, c, 3, gets(t, c, text(api.MaxKey), "long"))
		waits(t, c, 1, "")
		frees(t, c, gets(t, c, "", ""))
		counts(t, c, 7, 0, 3)
	}
}

// P11.2: as many go as must, the first one first.
func TestPutMakesRoom(t *testing.T) {
	for _, strict := range []bool{false, true} {
		for charge, want := range map[uint64]string{0: "abc", 1: "abc", 2: "bc", 4: "bc", 5: "c", 7: "c", 8: "", 10: ""} {
			c := fresh(t, 1, 10, strict)
			waits(t, c, 3, "a", "b", "c")
			puts(t, c, "x", "X", charge)
			lists(t, c, 0, want)
			counts(t, c, charge+3*uint64(len(want)), charge, len(want)+1)
		}
	}
}

// P11.2: those that charge nothing go, too, when it is their turn.
func TestThoseThatChargeNothing(t *testing.T) {
	c := fresh(t, 1, 5, false)
	waits(t, c, 0, "a", "b")
	waits(t, c, 5, "c")
	waits(t, c, 0, "d")
	lists(t, c, 0, "abcd")
	puts(t, c, "e", "", 1)
	lists(t, c, 0, "d")
	counts(t, c, 1, 1, 2)
}

// P11.2: without room, a cache that is not strict takes in what comes all the same.
func TestPutBeyondTheRoom(t *testing.T) {
	c := fresh(t, 1, 10, false)
	waits(t, c, 3, "a", "b", "c")
	big := puts(t, c, "big", "B", 11)
	counts(t, c, 11, 11, 1)
	more := puts(t, c, "more", "M", 100)
	counts(t, c, 111, 111, 2)
	frees(t, c, big)
	counts(t, c, 100, 100, 1)
	lacks(t, c, "big")
	frees(t, c, more)
	counts(t, c, 0, 0, 0)
}

// P11.2: a strict cache refuses that; what went for it is gone.
func TestPutIntoAStrictCache(t *testing.T) {
	c := fresh(t, 1, 10, true)
	waits(t, c, 3, "a", "b", "c")
	refuses(t, c, "big", 11, api.ErrFull)
	counts(t, c, 0, 0, 0)
	lacks(t, c, "big")
	pin := puts(t, c, "a", "A", 6)
	waits(t, c, 2, "b", "c")
	refuses(t, c, "d", 5, api.ErrFull)
	counts(t, c, 6, 6, 1)
	if next := puts(t, c, "d", "D", 4); next != 7 {
		t.Errorf("the seventh pin is %d", next)
	}
	counts(t, c, 10, 10, 2)
	refuses(t, c, "e", 1, api.ErrFull)
	holds(t, c, pin, "A")
	if p := puts(t, c, "e", "E", 0); p != 8 {
		t.Errorf("the eighth pin is %d", p)
	}
}

// P11.2: a refused entry leaves the one of its key in, if that is pinned; if it waited, it is gone.
func TestRefusedInPlaceOfAnother(t *testing.T) {
	c := fresh(t, 1, 10, true)
	pin := puts(t, c, "a", "old", 6)
	refuses(t, c, "a", 5, api.ErrFull)
	frees(t, c, gets(t, c, "a", "old"))
	frees(t, c, pin)
	refuses(t, c, "a", 11, api.ErrFull)
	lacks(t, c, "a")
	counts(t, c, 0, 0, 0)
}

// P11.2: in place of one that waits; what waits ahead of it goes before it is taken out.
func TestPutInPlaceOfOneThatWaits(t *testing.T) {
	for _, strict := range []bool{false, true} {
		c := fresh(t, 1, 10, strict)
		waits(t, c, 4, "a", "b")
		puts(t, c, "b", "new", 2)
		lists(t, c, 0, "a")
		counts(t, c, 6, 2, 2)

		c = fresh(t, 1, 10, strict)
		waits(t, c, 4, "a", "b")
		puts(t, c, "b", "new", 4)
		lists(t, c, 0, "")
		counts(t, c, 4, 4, 1)

		c = fresh(t, 1, 10, strict)
		waits(t, c, 4, "b", "a")
		pin := puts(t, c, "b", "new", 4)
		lists(t, c, 0, "a")
		counts(t, c, 8, 4, 2)
		frees(t, c, gets(t, c, "b", "new"), pin)
		lists(t, c, 0, "ab")
	}
}

// P11.2: in place of one that is pinned: that is kept by its pins, and counts, until they are all freed.
func TestPutInPlaceOfOneThatIsPinned(t *testing.T) {
	c := fresh(t, 1, 10, true)
	one := puts(t, c, "a", "old", 4)
	two := gets(t, c, "a", "old")
	newer := puts(t, c, "a", "new", 5)
	counts(t, c, 9, 9, 1)
	three := gets(t, c, "a", "new")
	holds(t, c, one, "old")
	holds(t, c, two, "old")
	holds(t, c, newer, "new")
	refuses(t, c, "b", 2, api.ErrFull)
	frees(t, c, one)
	counts(t, c, 9, 9, 1)
	holds(t, c, two, "old")
	frees(t, c, two)
	counts(t, c, 5, 5, 1)
	lists(t, c, 0, "")
	frees(t, c, three, newer)
	counts(t, c, 5, 0, 1)
	lists(t, c, 0, "a")
	frees(t, c, gets(t, c, "a", "new"))
}

// P11.2: the new one's pins may go ahead of the old one's.
func TestTheNewOneGoesFirst(t *testing.T) {
	c := fresh(t, 1, 10, false)
	old := puts(t, c, "a", "old", 4)
	frees(t, c, puts(t, c, "a", "new", 5))
	lists(t, c, 0, "a")
	frees(t, c, puts(t, c, "b", "", 3))
	lists(t, c, 0, "b")
	lacks(t, c, "a")
	holds(t, c, old, "old")
	counts(t, c, 7, 4, 1)
	frees(t, c, old)
	lists(t, c, 0, "b")
	counts(t, c, 3, 0, 1)
}

// P11.2: pins are numbered from 1 on, in all shards together, and none again.
func TestPinsAreNumbered(t *testing.T) {
	c := fresh(t, 8, 1000, false)
	want := 0
	for i := range 200 {
		key := strconv.Itoa(i % 30)
		want++
		if pin := puts(t, c, key, "v", 1); pin != want {
			t.Fatalf("Put's pin is %d, want %d", pin, want)
		}
		want++
		if pin := gets(t, c, key, "v"); pin != want {
			t.Fatalf("Get's pin is %d, want %d", pin, want)
		}
		lacks(t, c, "not there")
		frees(t, c, want)
		if i%3 == 0 {
			frees(t, c, want-1)
		}
	}
}

// P11.3: one that is got waits no more, and then behind all others.
func TestGet(t *testing.T) {
	c := fresh(t, 1, 100, false)
	waits(t, c, 1, "a", "b", "c", "d")
	b := gets(t, c, "b", "b")
	lists(t, c, 0, "acd")
	counts(t, c, 4, 1, 4)
	again := gets(t, c, "b", "b")
	counts(t, c, 4, 1, 4)
	a, d := gets(t, c, "a", "a"), gets(t, c, "d", "d")
	lists(t, c, 0, "c")
	frees(t, c, d, b, a)
	lists(t, c, 0, "cda")
	frees(t, c, again)
	lists(t, c, 0, "cdab")
	frees(t, c, gets(t, c, "b", "b"))
	lists(t, c, 0, "cdab")
	frees(t, c, gets(t, c, "c", "c"))
	lists(t, c, 0, "dabc")
}

// P11.3: of a key that was never put in, went, or was dropped.
func TestGetOfNone(t *testing.T) {
	c := fresh(t, 2, 8, false)
	lacks(t, c, "a")
	waits(t, c, 4, "a")
	lacks(t, c, "A")
	lacks(t, c, "aa")
	lacks(t, c, "")
	c.Room(0)
	lacks(t, c, "a")
	pin := puts(t, c, "a", "A", 1)
	c.Drop("a")
	lacks(t, c, "a")
	holds(t, c, pin, "A")
}

// P11.3: a zero value may be put in, which is another thing than none.
func TestZeroValues(t *testing.T) {
	c, _ := cache.New[*int](1, 10, false)
	pin, e := c.Put("", nil, 0)
	if pin != 1 || e != api.OK {
		t.Fatalf("Put: %d, %d", pin, e)
	}
	if pin, v, is := c.Get(""); pin != 2 || v != nil || !is {
		t.Errorf("Get: %d, %v, %t", pin, v, is)
	}
	if v, e := c.Value(pin); v != nil || e != api.OK {
		t.Errorf("Value: %v, %d", v, e)
	}
}

// P11.3: pins that are none.
func TestPinsThatAreNone(t *testing.T) {
	c := fresh(t, 1, 10, false)
	none := func(pins ...int) {
		t.Helper()
		for _, pin := range pins {
			if v, e := c.Value(pin); v != "" || e != api.ErrPin {
				t.Errorf("Value(%d): %q, %d", pin, v, e)
			}
			if e := c.Free(pin); e != api.ErrPin {
				t.Errorf("Free(%d): %d", pin, e)
			}
		}
	}
	none(0, 1, -1, 2, math.MaxInt, math.MinInt)
	pin := puts(t, c, "a", "A", 4)
	none(0, 2, -1, 3, math.MaxInt, math.MinInt)
	counts(t, c, 4, 4, 1)
	frees(t, c, pin)
	none(1)
	counts(t, c, 4, 0, 1)
	again := gets(t, c, "a", "A")
	none(1, 3)
	frees(t, c, again)
	none(1, 2, 3)
	lists(t, c, 0, "a")
	c.Drop("a")
	none(1, 2)
	refuses(t, c, text(2000), 1, api.ErrLong)
	none(3)
}

// P11.3: only the last pin makes an entry wait, in whatever order they go.
func TestFreeOfSeveralPins(t *testing.T) {
	for _, order := range [][]int{{1, 2, 3}, {3, 2, 1}, {2, 1, 3}, {1, 3, 2}} {
		c := fresh(t, 1, 10, false)
		puts(t, c, "a", "A", 11)
		gets(t, c, "a", "A")
		gets(t, c, "a", "A")
		frees(t, c, order[0], order[1])
		counts(t, c, 11, 11, 1)
		lists(t, c, 0, "")
		holds(t, c, order[2], "A")
		frees(t, c, order[2])
		counts(t, c, 0, 0, 0)
	}
}

// P11.3: one that waits again may go at once, with no room for it.
func TestFreeMakesRoom(t *testing.T) {
	c := fresh(t, 1, 10, false)
	a, b, d := puts(t, c, "a", "A", 6), puts(t, c, "b", "B", 4), puts(t, c, "d", "D", 5)
	frees(t, c, a)
	lists(t, c, 0, "")
	lacks(t, c, "a")
	counts(t, c, 9, 9, 2)
	frees(t, c, d, b)
	lists(t, c, 0, "db")
	frees(t, c, puts(t, c, "e", "E", 10))
	lists(t, c, 0, "e")
}

// P11.3
func TestDrop(t *testing.T) {
	c := fresh(t, 1, 100, false)
	drops := func(key string, want bool) {
		t.Helper()
		if got := c.Drop(key); got != want {
			t.Errorf("Drop(%q): %t", key, got)
		}
	}
	drops("a", false)
	waits(t, c, 2, "a", "b", "c", "d")
	drops("b", true)
	lists(t, c, 0, "acd")
	drops("b", false)
	drops("d", true)
	drops("a", true)
	lists(t, c, 0, "c")
	counts(t, c, 2, 0, 1)
	pin := gets(t, c, "c", "c")
	drops("c", true)
	drops("c", false)
	counts(t, c, 2, 2, 0)
	holds(t, c, pin, "c")
	newer := puts(t, c, "c", "new", 3)
	counts(t, c, 5, 5, 1)
	frees(t, c, pin)
	counts(t, c, 3, 3, 1)
	drops("c", true)
	frees(t, c, newer)
	counts(t, c, 0, 0, 0)
	lists(t, c, 0, "")
}

// P11.4: of entries with several pins the charge is counted once, of those that are taken out, too.
func TestCounts(t *testing.T) {
	c := fresh(t, 5, 10000, false)
	var pins []int
	for i := range 50 {
		key := strconv.Itoa(i)
		pins = append(pins, puts(t, c, key, "", uint64(i)), gets(t, c, key, ""))
	}
	counts(t, c, 1225, 1225, 50)
	for i := range 10 {
		c.Drop(strconv.Itoa(i))
	}
	counts(t, c, 1225, 1225, 40)
	frees(t, c, pins[:40]...)
	counts(t, c, 1180, 1035, 40)
	for _, pin := range pins[40:] {
		c.Free(pin)
	}
	counts(t, c, 1180, 0, 40)
}

// P11.4
func TestKeysOfShardsThatCantBe(t *testing.T) {
	for _, shards := range []int{1, 3, 64} {
		c := fresh(t, shards, 1000, false)
		waits(t, c, 1, "a", "b", "c", "d", "e")
		for _, s := range []int{-1, -2, shards, shards + 1, 1 << 32, math.MaxInt, math.MinInt} {
			if l := c.Keys(s); len(l) != 0 {
				t.Errorf("Keys(%d) of %d shards: %q", s, shards, l)
			}
		}
		var all []string
		for s := range shards {
			for _, key := range c.Keys(s) {
				if c.Shard(key) != s {
					t.Errorf("%q waits in the shard %d", key, s)
				}
				all = append(all, key)
			}
		}
		slices.Sort(all)
		if !slices.Equal(all, []string{"a", "b", "c", "d", "e"}) {
			t.Errorf("in %d shards wait %q", shards, all)
		}
	}
}

// P11.4: sums stop at 2^64 - 1, and are right again as soon as they are less.
func TestGreatSums(t *testing.T) {
	c := fresh(t, 1, most, false)
	a, b, d := puts(t, c, "a", "", most), puts(t, c, "b", "", 1), puts(t, c, "d", "", most-1)
	counts(t, c, most, most, 3)
	frees(t, c, a)
	counts(t, c, most, most, 3)
	frees(t, c, d)
	counts(t, c, most, 1, 3)
	c.Drop("a")
	counts(t, c, most, 1, 2)
	c.Drop("d")
	counts(t, c, 1, 1, 1)
	frees(t, c, b)
	counts(t, c, 1, 0, 1)
	c.Drop("b")
	counts(t, c, 0, 0, 0)
}

// P11.4: over several shards.
func TestGreatSumsOfShards(t *testing.T) {
	c := fresh(t, 3, most, false)
	for i := range 40 {
		puts(t, c, strconv.Itoa(i), "", 1<<63)
	}
	counts(t, c, most, most, 40)
	for i := range 38 {
		frees(t, c, i+1)
	}
	counts(t, c, most, most, 2)
	frees(t, c, 39)
	counts(t, c, 1<<63, 1<<63, 1)
}

// Of as much room as can be nothing is more, since sums stop there: nothing goes, and nothing is refused.
func TestAsMuchRoomAsCanBe(t *testing.T) {
	for _, strict := range []bool{false, true} {
		c := fresh(t, 1, most, strict)
		waits(t, c, most, "a", "b", "c")
		waits(t, c, 5, "d")
		lists(t, c, 0, "abcd")
		counts(t, c, most, 0, 4)
		c.Room(most - 1)
		lists(t, c, 0, "d")
		counts(t, c, 5, 0, 1)
	}
}

// A sum that stops is more than any lesser room: it does not begin again at 0.
func TestSumsDoNotBeginAgain(t *testing.T) {
	c := fresh(t, 1, 10, true)
	pin := puts(t, c, "a", "A", 8)
	for _, charge := range []uint64{3, most, most - 1, most - 7, most - 8, 1 << 63} {
		refuses(t, c, "b", charge, api.ErrFull)
	}
	frees(t, c, pin)
	refuses(t, c, "b", most, api.ErrFull)
	counts(t, c, 0, 0, 0)
	d := fresh(t, 1, 10, false)
	waits(t, d, 8, "a")
	pin = puts(t, d, "b", "B", most)
	lists(t, d, 0, "")
	frees(t, d, pin)
	counts(t, d, 0, 0, 0)
}

// The chapter's example.
func TestExample(t *testing.T) {
	c := fresh(t, 1, 10, false)
	a, b := puts(t, c, "a", "A", 4), puts(t, c, "b", "B", 4)
	frees(t, c, a, b)
	x := puts(t, c, "c", "C", 4)
	lacks(t, c, "a")
	lists(t, c, 0, "b")
	frees(t, c, x)
	lists(t, c, 0, "bc")
	frees(t, c, gets(t, c, "b", "B"))
	lists(t, c, 0, "cb")
}
