package useriter_test

import (
	"cmp"
	"fmt"
	"iter"
	"math"
	"math/rand/v2"
	"slices"
	"strings"
	"testing"

	"sediment/api"
	"sediment/merge"
	"sediment/useriter"
)

// chance is random numbers that are the same in every run.
func chance(seed uint64) *rand.Rand { return rand.New(rand.NewPCG(16, seed)) }

// hows are both comparators.
func hows() []int { return []int{api.Bytewise, api.Reverse} }

// wrongHows are numbers that are no comparator's.
func wrongHows() []int { return []int{2, 3, -1, math.MaxInt, math.MinInt} }

func entry(user string, seq uint64, kind int, value string) api.Entry {
	return api.Entry{Key: api.Key{User: user, Seq: seq, Kind: kind}, Value: value}
}

func put(user string, seq uint64, value string) api.Entry { return entry(user, seq, api.Put, value) }

func del(user string, seq uint64) api.Entry { return entry(user, seq, api.Delete, "") }

func tomb(begin, end string, seq uint64) api.Tombstone {
	return api.Tombstone{Begin: begin, End: end, Seq: seq}
}

// turned is tombstones that lie by the other comparator about as l lies by one.
func turned(l []api.Tombstone) []api.Tombstone {
	l = slices.Clone(l)
	for i, x := range l {
		l[i].Begin, l[i].End = x.End, x.Begin
	}
	return l
}

// span is bounds with both ends.
func span(low, high string) api.Bounds {
	return api.Bounds{Low: low, High: high, HasLow: true, HasHigh: true}
}

// compare orders user keys by chapter 1's words.
func compare(how int, a, b string) int {
	if how == api.Reverse {
		return strings.Compare(b, a)
	}
	return strings.Compare(a, b)
}

// order orders keys by chapter 1's words.
func order(how int, a, b api.Key) int {
	return cmp.Or(compare(how, a.User, b.User), cmp.Compare(b.Seq, a.Seq), cmp.Compare(b.Kind, a.Kind))
}

// sorted is entries in order, those with the same key as they stood.
func sorted(how int, l []api.Entry) []api.Entry {
	l = slices.Clone(l)
	slices.SortStableFunc(l, func(a, b api.Entry) int { return order(how, a.Key, b.Key) })
	return l
}

// list is a source of entries, put in order.
func list(t *testing.T, how int, l ...api.Entry) merge.Source {
	t.Helper()
	s, e := merge.List(how, sorted(how, l))
	if s == nil || e != api.OK {
		t.Fatalf("List(%d, %d entries): nil %t, %d", how, len(l), s == nil, e)
	}
	return s
}

// fresh is an iterator that New must make.
func fresh(t *testing.T, how int, s merge.Source, tombs []api.Tombstone, seq uint64, b api.Bounds) *useriter.Iter {
	t.Helper()
	it, e := useriter.New(how, s, tombs, seq, b)
	if it == nil || e != api.OK {
		t.Fatalf("New(%d, .., %d tombstones, %d, %v): nil %t, %d", how, len(tombs), seq, b, it == nil, e)
	}
	return it
}

// pair is a key that is seen and its value.
type pair struct{ key, value string }

// view is what is seen within the bounds, in order, by the chapter's words, key by key.
func view(how int, l []api.Entry, tombs []api.Tombstone, seq uint64, b api.Bounds) []pair {
	var users []string
	for _, e := range l {
		users = append(users, e.User)
	}
	slices.SortFunc(users, func(x, y string) int { return compare(how, x, y) })
	var seen []pair
	for _, user := range slices.Compact(users) {
		if b.HasLow && compare(how, user, b.Low) < 0 || b.HasHigh && compare(how, user, b.High) >= 0 {
			continue
		}
		if value, is := lookUp(how, l, tombs, seq, user); is {
			seen = append(seen, pair{user, value})
		}
	}
	return seen
}

// lookUp is the value of a user key, if it is seen.
func lookUp(how int, l []api.Entry, tombs []api.Tombstone, seq uint64, user string) (string, bool) {
	var done []api.Entry
	for _, e := range l {
		if e.User == user && e.Seq <= seq {
			done = append(done, e)
		}
	}
	if len(done) == 0 {
		return "", false
	}
	first := sorted(how, done)[0]
	for _, x := range tombs {
		if compare(how, x.Begin, user) <= 0 && compare(how, user, x.End) < 0 && x.Seq > first.Seq && x.Seq <= seq {
			return "", false
		}
	}
	return first.Value, first.Kind == api.Put
}

// pairs is what a list tells.
func pairs(l iter.Seq2[string, string]) []pair {
	var got []pair
	for k, v := range l {
		got = append(got, pair{k, v})
	}
	return got
}

// some is the first n that a list tells, where it is ended.
func some(l iter.Seq2[string, string], n int) []pair {
	var got []pair
	for k, v := range l {
		if got = append(got, pair{k, v}); len(got) == n {
			break
		}
	}
	return got
}

// back is a list turned about.
func back(l []pair) []pair {
	l = slices.Clone(l)
	slices.Reverse(l)
	return l
}

// show is pairs as a message shows them.
func show(l []pair) string {
	if len(l) > 20 {
		return fmt.Sprintf("%d, from %.12q to %.12q", len(l), l[0], l[len(l)-1])
	}
	return fmt.Sprintf("%.12q", l)
}

// alike wants two lists to be the same.
func alike(t *testing.T, what string, got, want []pair) {
	t.Helper()
	if !slices.Equal(got, want) {
		t.Errorf("%s: %s, want %s", what, show(got), show(want))
	}
}

// tells wants that an iterator has just these pairs, in whatever way it is gone through or asked.
func tells(t *testing.T, it *useriter.Iter, want []pair) {
	t.Helper()
	alike(t, "All", pairs(it.All()), want)
	alike(t, "Back", pairs(it.Back()), back(want))
	var onward, backward []pair
	for is := it.First(); is; is = it.Next() {
		onward = append(onward, pair{it.Key(), it.Value()})
	}
	nowhere(t, "behind the last", false, it)
	for is := it.Last(); is; is = it.Prev() {
		backward = append(backward, pair{it.Key(), it.Value()})
	}
	nowhere(t, "ahead of the first", false, it)
	alike(t, "First and Next", onward, want)
	alike(t, "Last and Prev", backward, back(want))
	for _, p := range want {
		has(t, it, p.key, p.value)
		at(t, "Seek", it.Seek(p.key), it, p)
		at(t, "Before", it.Before(p.key), it, p)
	}
	it.Close()
}

// has wants a key to have a value, hasNot that it has none.
func has(t *testing.T, it *useriter.Iter, key, value string) {
	t.Helper()
	if v, is := it.Get(key); v != value || !is {
		t.Errorf("Get(%.12q) = %.12q, %t, want %.12q", key, v, is, value)
	}
}

func hasNot(t *testing.T, it *useriter.Iter, key string) {
	t.Helper()
	if v, is := it.Get(key); v != "" || is {
		t.Errorf("Get(%.12q) = %.12q, %t, want none", key, v, is)
	}
}

// at wants that a move was told to have found something, and that the iterator stands there.
func at(t *testing.T, what string, found bool, it *useriter.Iter, want pair) {
	t.Helper()
	for range 2 {
		if got := (pair{it.Key(), it.Value()}); !found || !it.Valid() || got != want {
			t.Fatalf("%s: %t, at %.12q, %t, want %.12q", what, found, got, it.Valid(), want)
		}
	}
}

// nowhere wants that a move was told to have found nothing, and that the iterator stands nowhere.
func nowhere(t *testing.T, what string, found bool, it *useriter.Iter) {
	t.Helper()
	for range 2 {
		if found || it.Valid() || it.Key() != "" || it.Value() != "" {
			t.Fatalf("%s: %t, at %.12q %.12q, %t, want nowhere", what, found, it.Key(), it.Value(), it.Valid())
		}
		if found = it.Next(); !found {
			found = it.Prev()
		}
	}
}

// word is a user key of few letters, so that the same one comes again.
func word(r *rand.Rand) string {
	var b strings.Builder
	for range r.IntN(4) {
		b.WriteByte("\x00ab\xff"[r.IntN(4)])
	}
	return b.String()
}

// panics is the text with which a call panics; empty, if it doesn't.
func panics(call func()) (text string) {
	defer func() {
		if x := recover(); x != nil {
			text = fmt.Sprint(x)
		}
	}()
	call()
	return ""
}
