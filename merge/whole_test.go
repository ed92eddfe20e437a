package merge_test

import (
	"fmt"
	"math/rand/v2"
	"slices"
	"strings"
	"testing"

	"sediment/api"
	"sediment/merge"
)

// spread is entries with keys that are there once, in order.
func spread(r *rand.Rand, how, n int) []api.Entry {
	var l []api.Entry
	for range n {
		l = append(l, api.Entry{Key: key(word(r), r.Uint64N(5), r.IntN(3)), Value: fmt.Sprint(r.IntN(9))})
	}
	l = sorted(how, l)
	return slices.CompactFunc(l, func(a, b api.Entry) bool { return a.Key == b.Key })
}

// word is a user key of few letters, so that the same one comes again.
func word(r *rand.Rand) string {
	var b strings.Builder
	for range r.IntN(4) {
		b.WriteByte("\x00ab\xff"[r.IntN(4)])
	}
	return b.String()
}

// P15.4: Merged of Lists is the List of all their entries, in whatever way these are spread.
func TestOneList(t *testing.T) {
	r := chance(1)
	for range 200 {
		how := r.IntN(2)
		l := spread(r, how, r.IntN(40))
		parts := make([][]api.Entry, 1+r.IntN(9))
		for _, e := range l {
			i := r.IntN(len(parts))
			parts[i] = append(parts[i], e)
		}
		m, one := merge.Merged(how, lists(t, how, parts...)), list(t, how, l)
		tells(t, how, m, l)
		for range 5 {
			k := key(word(r), r.Uint64N(6), r.IntN(3))
			alike(t, "All", slices.Collect(m.All(k)), slices.Collect(one.All(k)))
			alike(t, "Back", slices.Collect(m.Back(k)), slices.Collect(one.Back(k)))
		}
	}
}

// P15.4: of many entries, over many lists.
func TestOneGreatList(t *testing.T) {
	for _, how := range hows() {
		r := chance(2)
		var l []api.Entry
		parts := make([][]api.Entry, 100)
		for i := range 20000 {
			l = append(l, put(fmt.Sprintf("%06d", i), uint64(i), ""))
		}
		l = sorted(how, l)
		for _, e := range l {
			i := r.IntN(len(parts))
			parts[i] = append(parts[i], e)
		}
		m := merge.Merged(how, lists(t, how, parts...))
		alike(t, "All", slices.Collect(m.All(least(how))), l)
		slices.Reverse(l)
		alike(t, "Back", slices.Collect(m.Back(greatest(how))), l)
	}
}

// P15.5: where keys are there once, Next and then Prev stand where they stood, and Prev and then Next.
func TestToAndFro(t *testing.T) {
	r := chance(3)
	for range 100 {
		how := r.IntN(2)
		l := spread(r, how, 1+r.IntN(30))
		parts := make([][]api.Entry, 4)
		for _, e := range l {
			i := r.IntN(len(parts))
			parts[i] = append(parts[i], e)
		}
		c := merge.New(how, merge.Merged(how, lists(t, how, parts...)))
		for i, e := range l {
			at(t, "Seek", c.Seek(e.Key), c, e)
			if i+1 < len(l) {
				at(t, "Next", c.Next(), c, l[i+1])
				at(t, "Prev", c.Prev(), c, e)
			}
			if i > 0 {
				at(t, "Prev", c.Prev(), c, l[i-1])
				at(t, "Next", c.Next(), c, e)
			}
			at(t, "Before", c.Before(e.Key), c, e)
		}
	}
}

// P15.6: in one going through of a Merged of Joined, each source is opened only when it is come to; of a Joined by itself, once.
func TestOnlyWhatIsNeeded(t *testing.T) {
	var parts [][]api.Entry
	for i := range 20 {
		parts = append(parts, []api.Entry{put(fmt.Sprintf("%02d-a", i), 1, "x"), put(fmt.Sprintf("%02d-b", i), 1, "x")})
	}
	s, o := chain(t, api.Bytewise, lasts(parts...), parts...)
	for first := range parts {
		for last := first; last < len(parts); last++ {
			o.opened = nil
			got := some(s.All(parts[first][0].Key), 2*(last-first+1))
			alike(t, "All", got, slices.Concat(parts[first:last+1]...))
			if !rising(o.opened, first, last) {
				t.Fatalf("from %d to %d: opened %v", first, last, o.opened)
			}
			o.opened = nil
			some(s.Back(parts[last][1].Key), 2*(last-first+1))
			if slices.Reverse(o.opened); !rising(o.opened, first, last) {
				t.Fatalf("from %d back to %d: opened %v", last, first, o.opened)
			}
		}
	}
	o.opened = nil
	m := merge.Merged(api.Bytewise, []merge.Source{s, list(t, api.Bytewise, []api.Entry{put("05-aa", 1, "y")})})
	some(m.All(key("03", 1, 1)), 6)
	if slices.Max(o.opened) > 5 || slices.Min(o.opened) < 3 {
		t.Errorf("opened %v", o.opened)
	}
}

// rising tells whether a list is the numbers from first to last, each once.
func rising(l []int, first, last int) bool {
	for i, n := range l {
		if n != first+i {
			return false
		}
	}
	return len(l) == last-first+1
}
