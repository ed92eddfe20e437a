package cache_test

import (
	"fmt"
	"maps"
	"math/rand/v2"
	"runtime"
	"slices"
	"strconv"
	"strings"
	"testing"
	"weak"

	"sediment/api"
	"sediment/cache"
)

// act is something that is done with a cache, by chance, so that the same seed does the same with another one: what was answered.
func act(c cacher, r *rand.Rand, shards, pins int) string {
	key, pin := someKey(r, shards), r.IntN(pins+3)-1
	switch r.IntN(20) {
	case 0:
		c.Room(someRoom(r, shards))
		return "room"
	case 1:
		return fmt.Sprint("drop ", key, c.Drop(key))
	case 2:
		if r.IntN(4) == 0 {
			key = text(api.MaxKey + r.IntN(2))
		}
		return fmt.Sprint("shard ", c.Shard(key), c.Keys(r.IntN(shards+3)-1))
	case 3, 4, 5, 6:
		pin, v, is := c.Get(key)
		return fmt.Sprint("get ", key, pin, v, is)
	case 7, 8, 9, 10, 11, 12, 13:
		return fmt.Sprint("free ", pin, c.Free(pin))
	case 14:
		v, e := c.Value(pin)
		return fmt.Sprint("value ", pin, v, e)
	}
	if r.IntN(50) == 0 {
		key = text(api.MaxKey + r.IntN(2))
	}
	n, e := c.Put(key, strconv.Itoa(r.IntN(1000)), someCharge(r))
	return fmt.Sprint("put ", key, n, e)
}

// look is all that a cache tells, of that many shards and of pins up to some one.
func look(c cacher, shards, pins int) string {
	var told strings.Builder
	fmt.Fprintln(&told, c.Charge(), c.Pinned(), c.Len())
	for s := range shards {
		fmt.Fprintln(&told, c.Keys(s))
	}
	for pin := range pins + 1 {
		v, e := c.Value(pin)
		fmt.Fprint(&told, v, " ", e, " ")
	}
	return told.String()
}

// All promises: whatever is done, a cache tells what its model tells.
func TestAsTheModel(t *testing.T) {
	for seed := range uint64(300) {
		r := chance(seed)
		shards := 1 + r.IntN(3)
		if r.IntN(10) == 0 {
			shards = 64
		}
		room, strict := someRoom(r, shards), r.IntN(2) == 0
		c := fresh(t, shards, room, strict)
		m := &model{shards: shards, room: room, strict: strict}
		for step := range 120 {
			again := r.Uint64()
			given := m.given
			did := act(c, chance(again), shards, given)
			if want := act(m, chance(again), shards, given); did != want {
				t.Fatalf("seed %d, step %d: %s, want %s", seed, step, did, want)
			}
			if got, want := look(c, shards, m.given+1), look(m, shards, m.given+1); got != want {
				t.Fatalf("seed %d, step %d: behind %s\n%s\nwant\n%s", seed, step, did, got, want)
			}
		}
	}
}

// ledger is what a test knows of a cache by what it did itself: the charges of what was put in, by value, and the pins that are there.
type ledger struct {
	c       *cache.Cache[string]
	charges map[string]uint64
	values  map[int]string
	keys    map[string]string // by value
	last    map[string]string // the value that was put in last under a key
}

func begun(c *cache.Cache[string]) *ledger {
	return &ledger{c: c, charges: map[string]uint64{}, values: map[int]string{}, keys: map[string]string{}, last: map[string]string{}}
}

// step does something, but for Room.
func (l *ledger) step(r *rand.Rand, shards, number int) {
	key := someKey(r, shards)
	switch r.IntN(8) {
	case 0, 1, 2:
		v, charge := strconv.Itoa(number), uint64(r.IntN(9))
		if pin, e := l.c.Put(key, v, charge); e == api.OK {
			l.charges[v], l.values[pin], l.keys[v], l.last[key] = charge, v, key, v
		}
	case 3, 4:
		if pin, v, is := l.c.Get(key); is {
			l.values[pin] = v
		}
	case 5:
		l.c.Drop(key)
	default:
		if pins := slices.Sorted(maps.Keys(l.values)); len(pins) > 0 {
			l.free(pins[r.IntN(len(pins))])
		}
	}
}

func (l *ledger) free(pin int) {
	l.c.Free(pin)
	delete(l.values, pin)
}

// used is what a shard uses: those that wait, and those of all pins, each once.
func (l *ledger) used(shard int) uint64 {
	seen := map[string]bool{}
	for _, key := range l.c.Keys(shard) {
		seen[l.last[key]] = true
	}
	for _, v := range l.values {
		if l.c.Shard(l.keys[v]) == shard {
			seen[v] = true
		}
	}
	var n uint64
	for v := range seen {
		n += l.charges[v]
	}
	return n
}

// P11.5: a strict cache's shards never use more than their room, whatever is pinned.
func TestStrictWithinItsRoom(t *testing.T) {
	for seed := range uint64(100) {
		r := chance(seed)
		shards := 1 + r.IntN(4)
		each := uint64(r.IntN(30))
		l := begun(fresh(t, shards, each*uint64(shards)+uint64(r.IntN(shards)), true))
		for step := range 200 {
			l.step(r, shards, step)
			for s := range shards {
				if n := l.used(s); n > each {
					t.Fatalf("seed %d, step %d: the shard %d uses %d of %d", seed, step, s, n, each)
				}
			}
		}
	}
}

// P11.5: when nothing is pinned any more, each shard is within its room, also if that was made less meanwhile.
func TestWithinTheRoomWithoutPins(t *testing.T) {
	for seed := range uint64(200) {
		r := chance(seed)
		shards := 1 + r.IntN(4)
		each := uint64(r.IntN(30))
		l := begun(fresh(t, shards, each*uint64(shards), r.IntN(2) == 0))
		for step := range 60 {
			l.step(r, shards, step)
			if r.IntN(20) == 0 {
				each = uint64(r.IntN(30))
				l.c.Room(each * uint64(shards))
			}
		}
		for _, pin := range slices.Sorted(maps.Keys(l.values)) {
			l.free(pin)
		}
		if n := l.c.Pinned(); n != 0 {
			t.Fatalf("seed %d: %d is pinned", seed, n)
		}
		for s := range shards {
			if n := l.used(s); n > each {
				t.Fatalf("seed %d: the shard %d uses %d of %d", seed, s, n, each)
			}
		}
	}
}

// P11.6: whatever is done meanwhile, a pin's value is the one that was put in.
func TestWhatIsPinnedStays(t *testing.T) {
	for seed := range uint64(100) {
		r := chance(seed)
		l := begun(fresh(t, 1+r.IntN(4), uint64(r.IntN(60)), r.IntN(2) == 0))
		for step := range 200 {
			l.step(r, 3, step)
			if r.IntN(20) == 0 {
				l.c.Room(uint64(r.IntN(60)))
			}
			for pin, v := range l.values {
				holds(t, l.c, pin, v)
			}
		}
	}
}

// P11.6: also if it was put in anew, dropped, and all room taken.
func TestOnePinThroughAll(t *testing.T) {
	c := fresh(t, 1, 10, false)
	first := puts(t, c, "a", "first", 3)
	second := puts(t, c, "a", "second", 3)
	c.Drop("a")
	third := puts(t, c, "a", "third", 3)
	c.Room(0)
	for i := range 100 {
		waits(t, c, most, strconv.Itoa(i))
	}
	holds(t, c, first, "first")
	holds(t, c, second, "second")
	holds(t, c, third, "third")
	counts(t, c, 9, 9, 1)
	frees(t, c, second)
	holds(t, c, first, "first")
	holds(t, c, third, "third")
	frees(t, c, first, gets(t, c, "a", "third"), third)
	counts(t, c, 0, 0, 0)
}

// deed is something that is done with a key of one shard; of a Free, which of that shard's pins.
type deed struct {
	kind   int
	key    string
	charge uint64
	pick   int
}

// side is what is done with the keys of one shard of a cache.
type side struct {
	c    *cache.Cache[string]
	pins []int
}

func (s *side) do(d deed) string {
	switch d.kind {
	case 0:
		pin, e := s.c.Put(d.key, fmt.Sprint(d.key, d.charge), d.charge)
		if e == api.OK {
			s.pins = append(s.pins, pin)
		}
		return fmt.Sprint(e)
	case 1:
		pin, v, is := s.c.Get(d.key)
		if is {
			s.pins = append(s.pins, pin)
		}
		return fmt.Sprint(v, is)
	case 2:
		return fmt.Sprint(s.c.Drop(d.key))
	}
	if len(s.pins) == 0 {
		return ""
	}
	at := d.pick % len(s.pins)
	e := s.c.Free(s.pins[at])
	s.pins = slices.Delete(s.pins, at, at+1)
	return fmt.Sprint(e)
}

// P11.7: each shard of a cache tells what one tells with which nothing is done but with that shard's keys.
func TestShardsKnowNothingOfEachOther(t *testing.T) {
	for seed := range uint64(100) {
		r := chance(seed)
		shards := 2 + r.IntN(4)
		room, strict := uint64(r.IntN(20*shards)), r.IntN(2) == 0
		whole := fresh(t, shards, room, strict)
		var of, alone []*side
		for range shards {
			of = append(of, &side{c: whole})
			alone = append(alone, &side{c: fresh(t, shards, room, strict)})
		}
		for step := range 300 {
			d := deed{r.IntN(5), someKey(r, shards), uint64(r.IntN(9)), r.IntN(100)}
			s := whole.Shard(d.key)
			if got, want := of[s].do(d), alone[s].do(d); got != want {
				t.Fatalf("seed %d, step %d: %v: %s, alone %s", seed, step, d, got, want)
			}
			var used, pinned uint64
			in := 0
			for s := range shards {
				if got, want := whole.Keys(s), alone[s].c.Keys(s); !slices.Equal(got, want) {
					t.Fatalf("seed %d, step %d: Keys(%d) %q, alone %q", seed, step, s, got, want)
				}
				used, pinned, in = used+alone[s].c.Charge(), pinned+alone[s].c.Pinned(), in+alone[s].c.Len()
			}
			counts(t, whole, used, pinned, in)
		}
	}
}

// Two caches know nothing of one another, and a list that is told is new.
func TestMemory(t *testing.T) {
	c, d := fresh(t, 1, 10, false), fresh(t, 1, 10, false)
	waits(t, c, 1, "a", "b", "c")
	lacks(t, d, "a")
	counts(t, d, 0, 0, 0)
	if pin := puts(t, d, "a", "D", 1); pin != 1 {
		t.Errorf("the first pin is %d", pin)
	}
	l, other := c.Keys(0), c.Keys(0)
	clear(l[:cap(l)])
	if !slices.Equal(other, []string{"a", "b", "c"}) {
		t.Errorf("another list is %q", other)
	}
	lists(t, c, 0, "abc")
	if l := append(other, "x"); len(l) != 4 {
		t.Error(l)
	}
	lists(t, c, 0, "abc")
	frees(t, c, gets(t, c, "a", "a"))
	if !slices.Equal(other, []string{"a", "b", "c"}) {
		t.Errorf("what was told has become %q", other)
	}
}

// A cache is one of any type: of functions and lists, which can't be held against each other, too.
func TestValuesOfOtherTypes(t *testing.T) {
	c, _ := cache.New[func() int](2, 10, true)
	pin, e := c.Put("f", func() int { return 7 }, 1)
	if e != api.OK {
		t.Fatal(e)
	}
	if f, e := c.Value(pin); e != api.OK || f() != 7 {
		t.Errorf("Value: %d", e)
	}
	if _, f, is := c.Get("g"); f != nil || is {
		t.Error("Get of none")
	}
	d, _ := cache.New[[]string](1, 10, false)
	p, _ := d.Put("l", []string{"x"}, 1)
	if l, e := d.Value(p); e != api.OK || !slices.Equal(l, []string{"x"}) {
		t.Errorf("Value: %q, %d", l, e)
	}
	d.Free(p)
	if l, e := d.Value(p); l != nil || e != api.ErrPin {
		t.Errorf("Value: %q, %d", l, e)
	}
}

// heavy is a value of which a test can tell whether it is still kept.
type heavy struct{ room [64]*heavy }

// gone puts entries in that go in each of the ways there are: what is left of them; beside them, some stay.
func gone(t *testing.T, c *cache.Cache[*heavy]) (left, kept []weak.Pointer[heavy]) {
	put := func(key string) int {
		x := &heavy{}
		left = append(left, weak.Make(x))
		pin, e := c.Put(key, x, 1)
		if e != api.OK {
			t.Fatal(e)
		}
		return pin
	}
	stay := func(key string) int {
		pin := put(key)
		kept = append(kept, left[len(left)-1])
		left = left[:len(left)-1]
		return pin
	}
	c.Free(put("ahead")) // goes for want of room, as behind does
	c.Free(stay("between"))
	c.Free(put("behind"))
	c.Get("between")
	c.Free(put("dropped"))
	c.Drop("dropped")
	pin := put("pinned")
	c.Drop("pinned")
	c.Free(pin)
	c.Free(put("anew"))
	stay("anew")
	pin = put("old")
	stay("old")
	c.Free(pin)
	c.Room(2)
	return left, kept
}

// What is gone is not kept: neither by its pins' numbers nor by those that it waited among.
func TestWhatIsGoneIsNotKept(t *testing.T) {
	c, _ := cache.New[*heavy](1, 100, false)
	left, kept := gone(t, c)
	runtime.GC()
	for i, p := range left {
		if p.Value() != nil {
			t.Errorf("of what is gone, the one with the number %d is kept", i)
		}
	}
	for i, p := range kept {
		if p.Value() == nil {
			t.Errorf("of what stays, the one with the number %d is gone", i)
		}
	}
	runtime.KeepAlive(c)
}
