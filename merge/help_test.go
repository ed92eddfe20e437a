package merge_test

import (
	"cmp"
	"fmt"
	"iter"
	"math"
	"math/rand/v2"
	"slices"
	"strings"
	"testing"

	"sediment/api"
	"sediment/merge"
)

// chance is random numbers that are the same in every run.
func chance(seed uint64) *rand.Rand { return rand.New(rand.NewPCG(15, seed)) }

// hows are both comparators.
func hows() []int { return []int{api.Bytewise, api.Reverse} }

// wrongHows are numbers that are no comparator's.
func wrongHows() []int { return []int{2, 3, -1, math.MaxInt, math.MinInt} }

func key(user string, seq uint64, kind int) api.Key {
	return api.Key{User: user, Seq: seq, Kind: kind}
}

func put(user string, seq uint64, value string) api.Entry {
	return api.Entry{Key: key(user, seq, api.Put), Value: value}
}

// puts are entries with one letter each as their key, and a value that tells whose they are.
func puts(letters, value string) []api.Entry {
	var l []api.Entry
	for _, c := range letters {
		l = append(l, put(string(c), 5, value))
	}
	return l
}

// order orders keys by chapter 1's words.
func order(how int, a, b api.Key) int {
	c := strings.Compare(a.User, b.User)
	if how == api.Reverse {
		c = -c
	}
	return cmp.Or(c, cmp.Compare(b.Seq, a.Seq), cmp.Compare(b.Kind, a.Kind))
}

// sorted is entries in order, those with the same key as they stood.
func sorted(how int, l []api.Entry) []api.Entry {
	l = slices.Clone(l)
	slices.SortStableFunc(l, func(a, b api.Entry) int { return order(how, a.Key, b.Key) })
	return l
}

// from is the entries of a sorted list that All tells, back those that Back tells.
func from(how int, l []api.Entry, k api.Key) []api.Entry {
	var some []api.Entry
	for _, e := range l {
		if order(how, e.Key, k) >= 0 {
			some = append(some, e)
		}
	}
	return some
}

func back(how int, l []api.Entry, k api.Key) []api.Entry {
	var some []api.Entry
	for _, e := range l {
		if order(how, e.Key, k) <= 0 {
			some = append(some, e)
		}
	}
	slices.Reverse(some)
	return some
}

// least and greatest are the keys of which a source is asked for all that it has.
func least(how int) api.Key {
	k := key("", api.MaxSeq, api.RangeDelete)
	if how == api.Reverse {
		k.User = strings.Repeat("\xff", api.MaxKey+1)
	}
	return k
}

func greatest(how int) api.Key {
	k := key(strings.Repeat("\xff", api.MaxKey+1), 0, 0)
	if how == api.Reverse {
		k.User = ""
	}
	return k
}

// list is a source of entries that List must take.
func list(t *testing.T, how int, l []api.Entry) merge.Source {
	t.Helper()
	s, e := merge.List(how, l)
	if s == nil || e != api.OK {
		t.Fatalf("List(%d, %d entries): nil %t, %d", how, len(l), s == nil, e)
	}
	return s
}

// lists is a source of each list.
func lists(t *testing.T, how int, l ...[]api.Entry) []merge.Source {
	t.Helper()
	var all []merge.Source
	for _, x := range l {
		all = append(all, list(t, how, x))
	}
	return all
}

// show is entries as a message shows them.
func show(l []api.Entry) string {
	if len(l) > 30 {
		return fmt.Sprintf("%d entries, from %v to %v", len(l), l[0], l[len(l)-1])
	}
	var b strings.Builder
	for _, e := range l {
		if len(e.User) > 10 {
			e.User = fmt.Sprintf("%s..(%d)", e.User[:10], len(e.User))
		}
		fmt.Fprintf(&b, "%s@%d/%d=%s ", e.User, e.Seq, e.Kind, e.Value)
	}
	return "[" + strings.TrimSpace(b.String()) + "]"
}

// alike wants two lists to be the same.
func alike(t *testing.T, what string, got, want []api.Entry) {
	t.Helper()
	if !slices.Equal(got, want) {
		t.Errorf("%s: %s, want %s", what, show(got), show(want))
	}
}

// tells wants that a source has just these entries, from all keys that lie at, between and beside them.
func tells(t *testing.T, how int, s merge.Source, l []api.Entry) {
	t.Helper()
	for _, k := range keysAround(how, l) {
		alike(t, fmt.Sprintf("All(%.12v) by %d", k, how), slices.Collect(s.All(k)), from(how, l, k))
		alike(t, fmt.Sprintf("Back(%.12v) by %d", k, how), slices.Collect(s.Back(k)), back(how, l, k))
	}
}

// keysAround are keys at, just ahead of and just behind those of entries, and those of all that is there.
func keysAround(how int, l []api.Entry) []api.Key {
	keys := []api.Key{{}, least(how), greatest(how), key("\xff", api.MaxSeq, api.RangeDelete), key("", math.MaxUint64, 99), key("zzz", 0, -99)}
	for _, e := range l {
		k := e.Key
		keys = append(keys, k, key(k.User, k.Seq+1, k.Kind), key(k.User, max(k.Seq, 1)-1, k.Kind), key(k.User, k.Seq, k.Kind+1), key(k.User, k.Seq, k.Kind-1), key(k.User+"\x00", k.Seq, k.Kind))
	}
	slices.SortFunc(keys, func(a, b api.Key) int { return order(how, a, b) })
	return slices.Compact(keys)
}

// some is the first n that a list tells, where it is ended.
func some(l iter.Seq[api.Entry], n int) []api.Entry {
	var got []api.Entry
	for e := range l {
		if got = append(got, e); len(got) == n {
			break
		}
	}
	return got
}

// through goes through a list from end to end, and counts.
func through(l iter.Seq[api.Entry]) int { return len(slices.Collect(l)) }

// ask is what a probe was asked: from where, and whether back.
type ask struct {
	from api.Key
	back bool
}

// probe is a source that notes what it is asked, how many entries it told at most behind one ask, and which ones in all.
type probe struct {
	merge.Source
	asks []ask
	most int
	told map[api.Entry]bool
}

// note notes what is told.
func (p *probe) note(l iter.Seq[api.Entry]) iter.Seq[api.Entry] {
	return func(yield func(api.Entry) bool) {
		n := 0
		for e := range l {
			n++
			p.most = max(p.most, n)
			if p.told == nil {
				p.told = map[api.Entry]bool{}
			}
			p.told[e] = true
			if !yield(e) {
				return
			}
		}
	}
}

func (p *probe) All(from api.Key) iter.Seq[api.Entry] {
	p.asks = append(p.asks, ask{from, false})
	return p.note(p.Source.All(from))
}

func (p *probe) Back(from api.Key) iter.Seq[api.Entry] {
	p.asks = append(p.asks, ask{from, true})
	return p.note(p.Source.Back(from))
}

// wild is a source that tells its entries as they lie, whatever it is asked; twice is how often.
type wild struct {
	l     []api.Entry
	twice int
}

func (w wild) All(api.Key) iter.Seq[api.Entry] {
	return func(yield func(api.Entry) bool) {
		for range w.twice {
			for _, e := range w.l {
				if !yield(e) {
					return
				}
			}
		}
	}
}

func (w wild) Back(from api.Key) iter.Seq[api.Entry] { return w.All(from) }

// mute is a source that answers no list at all.
type mute struct{}

func (mute) All(api.Key) iter.Seq[api.Entry]  { return nil }
func (mute) Back(api.Key) iter.Seq[api.Entry] { return nil }

// panics is the text with which a call panics; empty, if it doesn't.
func panics(call func()) (text string) {
	defer func() {
		if x := recover(); x != nil {
			text = fmt.Sprint(x)
		}
	}()
	call()
	return ""
}
