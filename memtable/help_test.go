package memtable_test

import (
	"bytes"
	"iter"
	"math"
	"math/rand/v2"
	"slices"
	"strings"
	"testing"

	"sediment/api"
	"sediment/memtable"
)

func put(key, value string) api.Record { return api.Record{Kind: api.Put, Key: key, Value: value} }

func del(key string) api.Record { return api.Record{Kind: api.Delete, Key: key} }

func span(begin, end string) api.Record {
	return api.Record{Kind: api.RangeDelete, Key: begin, Value: end}
}

func key(user string, seq uint64, kind int) api.Key {
	return api.Key{User: user, Seq: seq, Kind: kind}
}

func entry(user string, seq uint64, kind int, value string) api.Entry {
	return api.Entry{Key: key(user, seq, kind), Value: value}
}

// text is n bytes.
func text(n int) string { return strings.Repeat("t", n) }

// hows are both comparators.
func hows() []int { return []int{api.Bytewise, api.Reverse} }

// manyHeights are lists of heights: none, low and high ones, more than there are records.
func manyHeights() [][]byte {
	return [][]byte{nil, {}, {0}, {1}, {255}, {1, 3, 2}, {0, 255}, {14, 15, 13, 16}, {1, 1, 1, 4, 1, 1, 9}, make([]byte, 1<<16)}
}

// done is a record at its number.
type done struct {
	seq uint64
	r   api.Record
}

// fresh is a new table.
func fresh(t *testing.T, how int, heights []byte) *memtable.Table {
	t.Helper()
	m, e := memtable.New(how, heights)
	if m == nil || e != api.OK {
		t.Fatalf("New(%d, %d heights): %v, %d", how, len(heights), m, e)
	}
	return m
}

// filled is a table of records that it must take.
func filled(t *testing.T, how int, heights []byte, l ...done) *memtable.Table {
	t.Helper()
	m := fresh(t, how, heights)
	for _, d := range l {
		adds(t, m, d.seq, d.r, api.OK)
	}
	return m
}

// adds wants Add's answer.
func adds(t *testing.T, m *memtable.Table, seq uint64, r api.Record, want api.Errno) {
	t.Helper()
	if e := m.Add(seq, r); e != want {
		t.Fatalf("Add(%d, kind %d, %d and %d bytes): %d, want %d", seq, r.Kind, len(r.Key), len(r.Value), e, want)
	}
}

// gets wants Get's answer.
func gets(t *testing.T, m *memtable.Table, user string, seq uint64, value string, kind int, is bool) {
	t.Helper()
	if v, k, ok := m.Get(user, seq); v != value || k != kind || ok != is {
		t.Errorf("Get(%q, %d) = %q, %d, %t, want %q, %d, %t", user, seq, v, k, ok, value, kind, is)
	}
}

// goes wants what is gone through.
func goes(t *testing.T, what string, seq iter.Seq[api.Entry], want []api.Entry) {
	t.Helper()
	if got := slices.Collect(seq); !slices.Equal(got, want) {
		t.Errorf("%s: %v, want %v", what, got, want)
	}
}

// compare orders user keys by the chapter's words.
func compare(how int, a, b string) int {
	c := bytes.Compare([]byte(a), []byte(b))
	if how == api.Reverse {
		return -c
	}
	return c
}

// comesFirst tells whether an internal key is ahead of another one.
func comesFirst(how int, a, b api.Key) bool {
	switch c := compare(how, a.User, b.User); {
	case c != 0:
		return c < 0
	case a.Seq != b.Seq:
		return a.Seq > b.Seq
	}
	return a.Kind > b.Kind
}

// model is a memtable as lists of what was added, which are gone through from end to end.
type model struct {
	how  int
	list []done
}

func (m *model) add(seq uint64, r api.Record) api.Errno {
	if r.Kind == api.Delete {
		r.Value = ""
	}
	for _, d := range m.list {
		same := d.seq == seq && d.r.Kind == r.Kind && d.r.Key == r.Key
		if same && (r.Kind != api.RangeDelete || d.r.Value == r.Value) {
			return api.ErrThere
		}
	}
	m.list = append(m.list, done{seq, r})
	return api.OK
}

func (m *model) entries() []api.Entry {
	var l []api.Entry
	for _, d := range m.list {
		if d.r.Kind != api.RangeDelete {
			l = append(l, entry(d.r.Key, d.seq, d.r.Kind, d.r.Value))
		}
	}
	return bubbled(l, func(a, b api.Entry) bool { return comesFirst(m.how, a.Key, b.Key) })
}

func (m *model) tombstones() []api.Tombstone {
	var l []api.Tombstone
	for _, d := range m.list {
		if d.r.Kind == api.RangeDelete {
			l = append(l, api.Tombstone{Begin: d.r.Key, End: d.r.Value, Seq: d.seq})
		}
	}
	return bubbled(l, func(a, b api.Tombstone) bool {
		if a.Begin != b.Begin {
			return compare(m.how, a.Begin, b.Begin) < 0
		}
		if a.End != b.End {
			return compare(m.how, a.End, b.End) < 0
		}
		return a.Seq > b.Seq
	})
}

// bubbled is a list in order, put there by changing neighbours.
func bubbled[T any](l []T, first func(a, b T) bool) []T {
	for end := len(l); end > 1; end-- {
		for i := 1; i < end; i++ {
			if first(l[i], l[i-1]) {
				l[i], l[i-1] = l[i-1], l[i]
			}
		}
	}
	return l
}

func (m *model) get(user string, seq uint64) (string, int, bool) {
	var best *api.Entry
	for _, e := range m.entries() {
		if e.User == user && e.Seq <= seq {
			best = &e
			break
		}
	}
	for _, x := range m.tombstones() {
		covers := compare(m.how, x.Begin, user) <= 0 && compare(m.how, x.End, user) > 0
		if covers && x.Seq <= seq && (best == nil || x.Seq > best.Seq) {
			return "", api.RangeDelete, true
		}
	}
	if best == nil {
		return "", 0, false
	}
	return best.Value, best.Kind, true
}

func (m *model) all(from api.Key) []api.Entry {
	return slices.DeleteFunc(m.entries(), func(e api.Entry) bool { return comesFirst(m.how, e.Key, from) })
}

func (m *model) back(from api.Key) []api.Entry {
	l := slices.DeleteFunc(m.entries(), func(e api.Entry) bool { return comesFirst(m.how, from, e.Key) })
	slices.Reverse(l)
	return l
}

func (m *model) size() int {
	n := 0
	for _, d := range m.list {
		n += len(d.r.Key) + len(d.r.Value) + 16
	}
	return n
}

func (m *model) ends() (uint64, uint64) {
	var l []uint64
	for _, d := range m.list {
		l = append(l, d.seq)
	}
	if len(l) == 0 {
		return 0, 0
	}
	return slices.Min(l), slices.Max(l)
}

// least and greatest are keys ahead of and behind all entries, of user keys up to top.
func least(how int, top string) api.Key {
	if how == api.Reverse {
		return key(top, math.MaxUint64, math.MaxInt)
	}
	return key("", math.MaxUint64, math.MaxInt)
}

func greatest(how int, top string) api.Key {
	if how == api.Reverse {
		return key("", 0, math.MinInt)
	}
	return key(top, 0, math.MinInt)
}

// top is a user key that is greater than all that chance makes.
const top = "\xff\xff\xff"

// shows wants a table to tell all that its model tells, but for Get.
func shows(t *testing.T, m *memtable.Table, want *model) {
	t.Helper()
	goes(t, "All", m.All(least(want.how, top)), want.entries())
	turned := want.entries()
	slices.Reverse(turned)
	goes(t, "Back", m.Back(greatest(want.how, top)), turned)
	if got := m.Tombstones(); !slices.Equal(got, want.tombstones()) {
		t.Errorf("Tombstones %v, want %v", got, want.tombstones())
	}
	counts(t, m, want)
}

// counts wants a table's numbers to be its model's.
func counts(t *testing.T, m *memtable.Table, want *model) {
	t.Helper()
	first, last := want.ends()
	if m.Len() != len(want.list) || m.Size() != want.size() || m.First() != first || m.Last() != last {
		t.Errorf("Len %d, Size %d, First %d, Last %d, want %d, %d, %d, %d",
			m.Len(), m.Size(), m.First(), m.Last(), len(want.list), want.size(), first, last)
	}
}

// chance is random numbers that are the same in every run.
func chance(seed uint64) *rand.Rand { return rand.New(rand.NewPCG(7, seed)) }

// someKey is one of few user keys, of which some are the beginnings of others.
func someKey(r *rand.Rand) string {
	return []string{"", "\x00", "a", "a\x00", "aa", "ab", "b", "ba", "c", "d", "\x7f", "\x80", "\xff", "\xff\xff"}[r.IntN(14)]
}

// someSeq is one of few numbers, the least and the greatest ones among them.
func someSeq(r *rand.Rand) uint64 {
	if r.IntN(20) == 0 {
		return api.MaxSeq - uint64(r.IntN(2))
	}
	return uint64(r.IntN(30))
}

// someRecord is a record; now and then a Delete has a value, which plays no part.
func someRecord(r *rand.Rand) api.Record {
	x := api.Record{Family: uint32(r.IntN(3)), Kind: r.IntN(3), Key: someKey(r), Value: someKey(r)}
	if r.IntN(3) == 0 {
		x.Kind = api.Put
	}
	return x
}

// someHeights is heights, or none.
func someHeights(r *rand.Rand) []byte {
	b := make([]byte, r.IntN(10))
	for i := range b {
		b[i] = byte([]int{0, 1, 1, 1, 2, 2, 3, 4, 14, 255}[r.IntN(10)])
	}
	return b
}

// someFrom is a key from which on one goes, which may be one that can't be.
func someFrom(r *rand.Rand) api.Key {
	seq, kind := someSeq(r), r.IntN(3)
	if r.IntN(10) == 0 {
		seq, kind = math.MaxUint64, []int{-1, 3, math.MinInt, math.MaxInt}[r.IntN(4)]
	}
	return key(someKey(r), seq, kind)
}
