package cache_test

import (
	"math/big"
	"math/rand/v2"
	"slices"
	"strconv"
	"strings"
	"testing"

	"sediment/api"
	"sediment/cache"
)

// most is the greatest number, at which sums stop.
const most = 1<<64 - 1

// chance is random numbers that are the same in every run.
func chance(seed uint64) *rand.Rand { return rand.New(rand.NewPCG(11, seed)) }

// text is n bytes.
func text(n int) string { return strings.Repeat("t", n) }

// fresh is a new cache of texts.
func fresh(t *testing.T, shards int, room uint64, strict bool) *cache.Cache[string] {
	t.Helper()
	c, e := cache.New[string](shards, room, strict)
	if c == nil || e != api.OK {
		t.Fatalf("New(%d, %d, %t): %v, %d", shards, room, strict, c, e)
	}
	return c
}

// puts is the pin of what must go in.
func puts(t *testing.T, c *cache.Cache[string], key, value string, charge uint64) int {
	t.Helper()
	pin, e := c.Put(key, value, charge)
	if pin < 1 || e != api.OK {
		t.Fatalf("Put(%q, %d): %d, %d", key, charge, pin, e)
	}
	return pin
}

// refuses wants an error of Put.
func refuses(t *testing.T, c *cache.Cache[string], key string, charge uint64, want api.Errno) {
	t.Helper()
	if pin, e := c.Put(key, "never", charge); pin != 0 || e != want {
		t.Fatalf("Put of a key of %d bytes, %d: %d, %d, want 0, %d", len(key), charge, pin, e, want)
	}
}

// gets is the pin of what must be in.
func gets(t *testing.T, c *cache.Cache[string], key, want string) int {
	t.Helper()
	pin, v, is := c.Get(key)
	if pin < 1 || v != want || !is {
		t.Fatalf("Get(%q): %d, %q, %t, want %q", key, pin, v, is, want)
	}
	return pin
}

// lacks wants that none of a key is in.
func lacks(t *testing.T, c *cache.Cache[string], key string) {
	t.Helper()
	if pin, v, is := c.Get(key); pin != 0 || v != "" || is {
		t.Errorf("Get of a key of %d bytes: %d, %q, %t", len(key), pin, v, is)
	}
}

// frees lets pins go that are there.
func frees(t *testing.T, c *cache.Cache[string], pins ...int) {
	t.Helper()
	for _, pin := range pins {
		if e := c.Free(pin); e != api.OK {
			t.Fatalf("Free(%d): %d", pin, e)
		}
	}
}

// waits puts entries in that wait, one behind the other, of a charge each, whose values are their keys.
func waits(t *testing.T, c *cache.Cache[string], charge uint64, keys ...string) {
	t.Helper()
	for _, key := range keys {
		frees(t, c, puts(t, c, key, key, charge))
	}
}

// holds wants a pin's value.
func holds(t *testing.T, c *cache.Cache[string], pin int, want string) {
	t.Helper()
	if v, e := c.Value(pin); v != want || e != api.OK {
		t.Errorf("Value(%d): %q, %d, want %q", pin, v, e, want)
	}
}

// counts wants how much is used, how much of it is pinned, and how many are in.
func counts(t *testing.T, c *cache.Cache[string], used, pinned uint64, in int) {
	t.Helper()
	if a, b, n := c.Charge(), c.Pinned(), c.Len(); a != used || b != pinned || n != in {
		t.Errorf("Charge, Pinned, Len: %d, %d, %d, want %d, %d, %d", a, b, n, used, pinned, in)
	}
}

// lists wants who waits in a shard, in a text of keys of one byte.
func lists(t *testing.T, c *cache.Cache[string], shard int, want string) {
	t.Helper()
	if got := strings.Join(c.Keys(shard), ""); got != want {
		t.Errorf("Keys(%d): %q, want %q", shard, got, want)
	}
}

// item is an entry of a model.
type item struct {
	key, value string
	charge     uint64
	shard      int
	pins       []int
	in         bool
	since      int // when it began to wait
}

// model is a cache as one list of what was put in, all of which is gone through again and again; sums are numbers without end.
type model struct {
	shards int
	room   uint64
	strict bool
	items  []*item
	given  int
	now    int
}

func (m *model) Shard(key string) int {
	h := big.NewInt(2166136261)
	for _, x := range []byte(key) {
		h.Xor(h, big.NewInt(int64(x)))
		h.Mul(h, big.NewInt(16777619))
		h.Mod(h, new(big.Int).Lsh(big.NewInt(1), 32))
	}
	return int(h.Mod(h, big.NewInt(int64(m.shards))).Int64())
}

// stops is a sum of charges, up to 2^64 - 1.
func stops(charges ...uint64) uint64 {
	sum := new(big.Int)
	for _, n := range charges {
		sum.Add(sum, new(big.Int).SetUint64(n))
	}
	if !sum.IsUint64() {
		return most
	}
	return sum.Uint64()
}

// sum is the charges of the entries of which is holds.
func (m *model) sum(is func(*item) bool) uint64 {
	var l []uint64
	for _, x := range m.items {
		if is(x) {
			l = append(l, x.charge)
		}
	}
	return stops(l...)
}

func (m *model) used(shard int) uint64 {
	return m.sum(func(x *item) bool { return x.shard == shard })
}

// waiting is who waits in a shard, the first one first.
func (m *model) waiting(shard int) []*item {
	var l []*item
	for _, x := range m.items {
		if x.shard == shard && x.in && len(x.pins) == 0 {
			l = append(l, x)
		}
	}
	slices.SortFunc(l, func(a, b *item) int { return a.since - b.since })
	return l
}

// sweep lets those go that are neither in nor pinned.
func (m *model) sweep() {
	m.items = slices.DeleteFunc(m.items, func(x *item) bool { return !x.in && len(x.pins) == 0 })
}

func (m *model) makeRoom(shard int, charge uint64) {
	for stops(charge, m.used(shard)) > m.room/uint64(m.shards) && len(m.waiting(shard)) > 0 {
		m.waiting(shard)[0].in = false
		m.sweep()
	}
}

func (m *model) find(key string) *item {
	for _, x := range m.items {
		if x.key == key && x.in {
			return x
		}
	}
	return nil
}

func (m *model) pin(x *item) int {
	m.given++
	x.pins = append(x.pins, m.given)
	return m.given
}

func (m *model) Put(key, value string, charge uint64) (int, api.Errno) {
	if len(key) > 1024 {
		return 0, api.ErrLong
	}
	s := m.Shard(key)
	m.makeRoom(s, charge)
	if m.strict && stops(charge, m.used(s)) > m.room/uint64(m.shards) {
		return 0, api.ErrFull
	}
	m.Drop(key)
	x := &item{key: key, value: value, charge: charge, shard: s, in: true}
	m.items = append(m.items, x)
	return m.pin(x), api.OK
}

func (m *model) Get(key string) (int, string, bool) {
	x := m.find(key)
	if x == nil {
		return 0, "", false
	}
	return m.pin(x), x.value, true
}

// owner is the entry of a pin.
func (m *model) owner(pin int) *item {
	for _, x := range m.items {
		if slices.Contains(x.pins, pin) {
			return x
		}
	}
	return nil
}

func (m *model) Value(pin int) (string, api.Errno) {
	x := m.owner(pin)
	if x == nil {
		return "", api.ErrPin
	}
	return x.value, api.OK
}

func (m *model) Free(pin int) api.Errno {
	x := m.owner(pin)
	if x == nil {
		return api.ErrPin
	}
	x.pins = slices.DeleteFunc(x.pins, func(n int) bool { return n == pin })
	if len(x.pins) == 0 && x.in {
		m.now++
		x.since = m.now
		m.makeRoom(x.shard, 0)
	}
	m.sweep()
	return api.OK
}

func (m *model) Drop(key string) bool {
	x := m.find(key)
	if x != nil {
		x.in = false
		m.sweep()
	}
	return x != nil
}

func (m *model) Room(room uint64) {
	m.room = room
	for s := range m.shards {
		m.makeRoom(s, 0)
	}
}

func (m *model) Charge() uint64 { return m.sum(func(*item) bool { return true }) }

func (m *model) Pinned() uint64 { return m.sum(func(x *item) bool { return len(x.pins) > 0 }) }

func (m *model) Len() int {
	n := 0
	for _, x := range m.items {
		if x.in {
			n++
		}
	}
	return n
}

func (m *model) Keys(shard int) []string {
	var l []string
	for _, x := range m.waiting(shard) {
		l = append(l, x.key)
	}
	return l
}

// cacher is what a cache and its model are both.
type cacher interface {
	Put(key, v string, charge uint64) (int, api.Errno)
	Get(key string) (int, string, bool)
	Value(pin int) (string, api.Errno)
	Free(pin int) api.Errno
	Drop(key string) bool
	Room(room uint64)
	Charge() uint64
	Pinned() uint64
	Len() int
	Shard(key string) int
	Keys(shard int) []string
}

// someCharge is a charge: a few, now and then nothing or as much as can be.
func someCharge(r *rand.Rand) uint64 {
	switch r.IntN(40) {
	case 0:
		return most
	case 1:
		return most - uint64(r.IntN(5))
	case 2:
		return 1 << 63
	}
	return uint64(r.IntN(7))
}

// someRoom is a room for a few charges in each shard, now and then none or as much as can be.
func someRoom(r *rand.Rand, shards int) uint64 {
	switch r.IntN(8) {
	case 0:
		return most - uint64(r.IntN(2))
	case 1:
		return uint64(r.IntN(3))
	}
	return uint64(r.IntN(25 * shards))
}

// someKey is one of a few keys.
func someKey(r *rand.Rand, shards int) string { return "k" + strconv.Itoa(r.IntN(4+3*shards)) }
