package useriter_test

import (
	"fmt"
	"math/rand/v2"
	"slices"
	"testing"

	"sediment/api"
	"sediment/merge"
	"sediment/useriter"
)

// chosen is bounds by chance.
func chosen(r *rand.Rand) api.Bounds {
	return api.Bounds{Low: word(r), High: word(r), HasLow: r.IntN(3) == 0, HasHigh: r.IntN(3) == 0}
}

// grown is entries by chance, of which several may have the same key, spread over lists that are merged; and all of them as the source tells them.
func grown(t *testing.T, r *rand.Rand, how int) (merge.Source, []api.Entry) {
	t.Helper()
	var sources []merge.Source
	var all []api.Entry
	for range r.IntN(4) {
		var l []api.Entry
		for range r.IntN(20) {
			l = append(l, entry(word(r), r.Uint64N(8), r.IntN(3), fmt.Sprint(r.IntN(1000))))
		}
		l = sorted(how, l)
		sources, all = append(sources, list(t, how, l...)), append(all, l...)
	}
	return merge.Merged(how, sources), sorted(how, all)
}

// place is an iterator in the chapter's words: a pair of a sorted list, or nowhere.
type place struct {
	how    int
	l      []pair
	at     pair
	stands bool
}

// goTo puts it at the first pair of a list for which something holds.
func (p *place) goTo(l []pair, holds func(x pair) bool) bool {
	p.at, p.stands = pair{}, false
	if i := slices.IndexFunc(l, holds); i >= 0 {
		p.at, p.stands = l[i], true
	}
	return p.stands
}

// beside goes to the first pair of a list that is on that side of where it stands.
func (p *place) beside(l []pair, side int) bool {
	from := p.at.key
	return p.stands && p.goTo(l, func(x pair) bool { return compare(p.how, x.key, from) == side })
}

func whichever(pair) bool { return true }

// moves makes one move by chance with an iterator and its model.
func moves(t *testing.T, r *rand.Rand, it *useriter.Iter, p *place) {
	t.Helper()
	k := word(r)
	var name string
	var got, want bool
	switch r.IntN(12) {
	case 0:
		name, got, want = "First", it.First(), p.goTo(p.l, whichever)
	case 1:
		name, got, want = "Last", it.Last(), p.goTo(back(p.l), whichever)
	case 2, 3:
		name, got, want = fmt.Sprintf("Seek(%q)", k), it.Seek(k), p.goTo(p.l, func(x pair) bool { return compare(p.how, x.key, k) >= 0 })
	case 4, 5:
		name, got, want = fmt.Sprintf("Before(%q)", k), it.Before(k), p.goTo(back(p.l), func(x pair) bool { return compare(p.how, x.key, k) <= 0 })
	case 6, 7, 8:
		name, got, want = "Next", it.Next(), p.beside(p.l, 1)
	case 9, 10:
		name, got, want = "Prev", it.Prev(), p.beside(back(p.l), -1)
	default:
		it.Close()
		name, got, want = "Close", false, p.goTo(nil, whichever)
	}
	if is := (pair{it.Key(), it.Value()}); got != want || it.Valid() != p.stands || is != p.at {
		t.Fatalf("%s: %t at %q, %t, want %t at %q, %t", name, got, is, it.Valid(), want, p.at, p.stands)
	}
}

// asked asks one thing by chance that leaves it where it stands.
func asked(t *testing.T, r *rand.Rand, it *useriter.Iter, l []pair) {
	t.Helper()
	n := r.IntN(len(l) + 2)
	cut := func(l []pair) []pair {
		if n == 0 {
			return l
		}
		return l[:min(n, len(l))]
	}
	switch r.IntN(3) {
	case 0:
		alike(t, "All", some(it.All(), n), cut(l))
	case 1:
		alike(t, "Back", some(it.Back(), n), cut(back(l)))
	default:
		k := word(r)
		if i := slices.IndexFunc(l, func(x pair) bool { return x.key == k }); i >= 0 {
			has(t, it, k, l[i].value)
		} else {
			hasNot(t, it, k)
		}
	}
}

// P16.1 to P16.3: whatever source, ranges, number and bounds there are, an iterator is a place in what is seen.
func TestAsTheModel(t *testing.T) {
	r := chance(6)
	for range 2500 {
		how := r.IntN(2)
		s, l := grown(t, r, how)
		var ranges []api.Tombstone
		for range r.IntN(6) {
			ranges = append(ranges, tomb(word(r), word(r), r.Uint64N(9)))
		}
		seq, b := r.Uint64N(9), chosen(r)
		it := fresh(t, how, s, ranges, seq, b)
		p := &place{how: how, l: view(how, l, ranges, seq, b)}
		for range 25 {
			moves(t, r, it, p)
			asked(t, r, it, p.l)
			if was := (pair{it.Key(), it.Value()}); was != p.at || it.Valid() != p.stands {
				t.Fatalf("moved to %q", was)
			}
		}
		if t.Failed() {
			t.Fatalf("by %d, of %v, %v at %d, %v", how, l, ranges, seq, b)
		}
	}
}
