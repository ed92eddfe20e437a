package batch_test

import (
	"math/rand/v2"
	"slices"
	"strings"
	"testing"

	"sediment/api"
	"sediment/batch"
)

func put(family uint32, key, value string) api.Record {
	return api.Record{Family: family, Kind: api.Put, Key: key, Value: value}
}

func del(family uint32, key string) api.Record {
	return api.Record{Family: family, Kind: api.Delete, Key: key}
}

func span(family uint32, begin, end string) api.Record {
	return api.Record{Family: family, Kind: api.RangeDelete, Key: begin, Value: end}
}

// text is n bytes.
func text(n int) string { return strings.Repeat("t", n) }

// some is n small records.
func some(n int) []api.Record { return slices.Repeat([]api.Record{del(0, "k")}, n) }

// widest is records whose batch has size bytes, as far as possible with values that are as long as they may be.
func widest(size int) []api.Record {
	const head, one = 12, 1 + 1 + 1 + 3 + api.MaxValue
	size -= head
	var l []api.Record
	for size >= 2*one {
		l = append(l, put(0, "", text(api.MaxValue)))
		size -= one
	}
	// The rest is two records, whose lengths have two bytes each.
	for _, part := range []int{size / 2, size - size/2} {
		l = append(l, put(0, "", text(part-1-1-1-2)))
	}
	return l
}

// filled is a batch of records that it must take.
func filled(t *testing.T, l ...api.Record) *batch.Batch {
	t.Helper()
	b := &batch.Batch{}
	for _, r := range l {
		if e := b.Add(r); e != api.OK {
			t.Fatalf("Add(%v): %d", short(r), e)
		}
	}
	return b
}

// short is a record that can be told in a line.
func short(r api.Record) api.Record {
	r.Key, r.Value = r.Key[:min(8, len(r.Key))], r.Value[:min(8, len(r.Value))]
	return r
}

// bare is records as they are told: the value of a Delete is empty.
func bare(l []api.Record) []api.Record {
	l = slices.Clone(l)
	for i := range l {
		if l[i].Kind == api.Delete {
			l[i].Value = ""
		}
	}
	return l
}

// bytesOf is how many bytes records have with a batch's head, counted from the chapter's words.
func bytesOf(l []api.Record) int {
	varint := func(n int) int {
		size := 1
		for n >= 128 {
			n /= 128
			size++
		}
		return size
	}
	n := 8 + 4
	for _, r := range l {
		n += 1 + varint(int(r.Family)) + varint(len(r.Key)) + len(r.Key)
		if r.Kind == api.Put || r.Kind == api.RangeDelete {
			n += varint(len(r.Value)) + len(r.Value)
		}
	}
	return n
}

// familiesOf is the families of records, rising, each once.
func familiesOf(l []api.Record) []uint32 {
	var out []uint32
	for _, r := range l {
		if !slices.Contains(out, r.Family) {
			out = append(out, r.Family)
		}
	}
	slices.Sort(out)
	return out
}

// shows wants a batch of these records, in all that it tells.
func shows(t *testing.T, b *batch.Batch, want []api.Record) {
	t.Helper()
	want = bare(want)
	got := b.Records()
	if !slices.Equal(got, want) {
		t.Errorf("%d records, want %d", len(got), len(want))
		for i := range min(len(got), len(want)) {
			if got[i] != want[i] {
				t.Fatalf("record %d is %v, want %v", i, short(got[i]), short(want[i]))
			}
		}
	}
	if n := b.Len(); n != len(want) {
		t.Errorf("Len %d, want %d", n, len(want))
	}
	if n := b.Size(); n != bytesOf(want) {
		t.Errorf("Size %d, want %d", n, bytesOf(want))
	}
	if l := b.Families(); !slices.Equal(l, familiesOf(want)) {
		t.Errorf("Families %v, want %v", l, familiesOf(want))
	}
}

// answers wants a call's error.
func answers(t *testing.T, call string, got, want api.Errno) {
	t.Helper()
	if got != want {
		t.Errorf("%s: %d, want %d", call, got, want)
	}
}

// anyRecord is a record that can be, often at an edge.
func anyRecord(r *rand.Rand) api.Record {
	families := []uint32{0, 1, 2, 127, 128, 300, 1<<14 - 1, 1 << 14, 1 << 21, 1 << 28, 1<<32 - 1}
	length := func() int { return []int{0, 0, 1, 1, 2, 3, 127, 128}[r.IntN(8)] }
	x := api.Record{Family: families[r.IntN(len(families))], Kind: r.IntN(3), Key: anyText(r, length()), Value: anyText(r, length())}
	if r.IntN(30) == 0 {
		x.Key = anyText(r, api.MaxKey-r.IntN(2))
	}
	if r.IntN(30) == 0 {
		x.Value = anyText(r, []int{api.MaxValue, api.MaxValue, api.MaxKey}[x.Kind]-r.IntN(2))
	}
	return x
}

func anyText(r *rand.Rand, n int) string {
	b := make([]byte, n)
	for i := range b {
		b[i] = []byte{0, 1, 2, 'a', 'b', 127, 128, 255}[r.IntN(8)]
	}
	return string(b)
}

// wrongRecords are records that can't be, each with Check's error.
func wrongRecords() map[api.Record]api.Errno {
	return map[api.Record]api.Errno{
		{Kind: 3}:                                       api.ErrArg,
		{Kind: -1}:                                      api.ErrArg,
		{Kind: 256}:                                     api.ErrArg,
		{Kind: 257}:                                     api.ErrArg,
		{Kind: 1 << 32}:                                 api.ErrArg,
		{Kind: 3, Key: text(1025)}:                      api.ErrArg,
		{Kind: -1, Value: text(16385)}:                  api.ErrArg,
		put(0, text(1025), ""):                          api.ErrLong,
		put(0, "", text(16385)):                         api.ErrLong,
		put(0, text(1025), text(16385)):                 api.ErrLong,
		put(7, text(1<<16), ""):                         api.ErrLong,
		del(0, text(1025)):                              api.ErrLong,
		{Kind: api.Delete, Key: text(1025)}:             api.ErrLong,
		span(0, text(1025), ""):                         api.ErrLong,
		span(0, "", text(1025)):                         api.ErrLong,
		span(0, "", text(16384)):                        api.ErrLong,
		span(1<<32-1, text(1<<16), text(1<<16)):         api.ErrLong,
		{Kind: api.Delete, Key: text(1025), Value: "v"}: api.ErrLong,
	}
}

// rightRecords are records that can be, at the edges.
func rightRecords() []api.Record {
	return []api.Record{
		{},
		put(0, "", ""),
		put(0, text(1024), text(16384)),
		put(1<<32-1, "k", text(1025)),
		del(0, ""),
		del(1<<32-1, text(1024)),
		{Kind: api.Delete, Key: "k", Value: "a value that plays no part"},
		{Kind: api.Delete, Key: text(1024), Value: text(16385)},
		{Kind: api.Delete, Value: text(api.MaxBytes + 1)},
		span(0, "", ""),
		span(3, "b", "a"),
		span(3, "a", "a"),
		span(3, text(1024), text(1024)),
	}
}
