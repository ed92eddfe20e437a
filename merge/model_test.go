package merge_test

import (
	"fmt"
	"math/rand/v2"
	"slices"
	"testing"

	"sediment/api"
	"sediment/merge"
)

// grown is a source that is made by chance of Lists, Merged and Joined, so deep, and all that it holds, in order.
func grown(t *testing.T, r *rand.Rand, how, deep int) (merge.Source, []api.Entry) {
	switch kind := r.IntN(4); {
	case deep == 0 || kind == 0:
		var l []api.Entry
		for range r.IntN(12) {
			l = append(l, api.Entry{Key: key(word(r), r.Uint64N(3), r.IntN(2)), Value: fmt.Sprint(r.IntN(1000))})
		}
		l = sorted(how, l)
		return list(t, how, l), l
	case kind == 1:
		return grownJoined(t, r, how, deep)
	default:
		return grownMerged(t, r, how, deep)
	}
}

// grownMerged is a Merged of several that are grown, or nil: of the same keys it has the one that stands ahead first.
func grownMerged(t *testing.T, r *rand.Rand, how, deep int) (merge.Source, []api.Entry) {
	var sources []merge.Source
	var all []api.Entry
	for range r.IntN(5) {
		if r.IntN(6) == 0 {
			sources = append(sources, nil)
			continue
		}
		s, l := grown(t, r, how, deep-1)
		sources, all = append(sources, s), append(all, l...)
	}
	return merge.Merged(how, sources), sorted(how, all)
}

// grownJoined is a Joined of what is grown, cut between keys.
func grownJoined(t *testing.T, r *rand.Rand, how, deep int) (merge.Source, []api.Entry) {
	_, l := grown(t, r, how, deep-1)
	parts := pieces(l, 1+r.IntN(9))
	ends := lasts(parts...)
	sources := lists(t, how, parts...)
	return merge.Joined(how, ends, func(i int) merge.Source { return sources[i] }), l
}

// place is a cursor in the chapter's words: an entry of a sorted list, or nowhere.
type place struct {
	how    int
	l      []api.Entry
	at     api.Entry
	stands bool
}

func (p *place) goTo(l []api.Entry) bool {
	p.at, p.stands = api.Entry{}, false
	if len(l) > 0 {
		p.at, p.stands = l[0], true
	}
	return p.stands
}

// next goes to the first entry of a list behind the key where it stands.
func (p *place) next(l []api.Entry) bool {
	if !p.stands {
		return false
	}
	return p.goTo(slices.DeleteFunc(l, func(e api.Entry) bool { return e.Key == p.at.Key }))
}

// moves makes one move by chance with a cursor and its model.
func moves(t *testing.T, r *rand.Rand, c *merge.Cursor, p *place) {
	t.Helper()
	k := key(word(r), r.Uint64N(4), r.IntN(3))
	var name string
	var got, want bool
	switch r.IntN(12) {
	case 0:
		name, got, want = "First", c.First(), p.goTo(from(p.how, p.l, least(p.how)))
	case 1:
		name, got, want = "Last", c.Last(), p.goTo(back(p.how, p.l, greatest(p.how)))
	case 2, 3:
		name, got, want = fmt.Sprint("Seek ", k), c.Seek(k), p.goTo(from(p.how, p.l, k))
	case 4, 5:
		name, got, want = fmt.Sprint("Before ", k), c.Before(k), p.goTo(back(p.how, p.l, k))
	case 6, 7, 8:
		name, got, want = "Next", c.Next(), p.next(from(p.how, p.l, p.at.Key))
	case 9, 10:
		name, got, want = "Prev", c.Prev(), p.next(back(p.how, p.l, p.at.Key))
	default:
		c.Close()
		name, got, want = "Close", false, p.goTo(nil)
	}
	if e, is := c.Entry(); got != want || is != p.stands || e != p.at {
		t.Fatalf("%s: %t at %v, %t, want %t at %v, %t", name, got, e, is, want, p.at, p.stands)
	}
}

// P15.1 to P15.5: whatever is built of what, it tells what the model tells, and a cursor goes as a place in the sorted list.
func TestAsTheModel(t *testing.T) {
	r := chance(4)
	for range 600 {
		how := r.IntN(2)
		s, l := grown(t, r, how, r.IntN(4))
		for range 8 {
			k := key(word(r), r.Uint64N(4), r.IntN(3))
			n := r.IntN(len(l) + 2)
			alike(t, "All", some(s.All(k), n), cut(from(how, l, k), n))
			alike(t, "Back", some(s.Back(k), n), cut(back(how, l, k), n))
		}
		c, p := merge.New(how, s), &place{how: how, l: l}
		for range 25 {
			moves(t, r, c, p)
		}
		if t.Failed() {
			return
		}
	}
}

// cut is the first n of a list; all, if n is 0.
func cut(l []api.Entry, n int) []api.Entry {
	if n == 0 {
		return l
	}
	return l[:min(n, len(l))]
}
