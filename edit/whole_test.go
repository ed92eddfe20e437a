package edit_test

import (
	"fmt"
	"math/rand/v2"
	"slices"
	"testing"

	"sediment/api"
	"sediment/edit"
)

// leadsTo wants that Between makes one version into the other (P13.7).
func leadsTo(t *testing.T, how int, a, b api.Version) {
	t.Helper()
	got, why := edit.Apply(how, a, edit.Between(a, b))
	if why != api.OK || !edit.Equal(got, b) || !same(got, b) {
		t.Fatalf("how %d: from %s to %s: %s, %d", how, short(a), short(b), short(got), why)
	}
}

// P13.7
func TestFromOneToTheOther(t *testing.T) {
	for seed := range uint64(2500) {
		r := chance(seed)
		how := r.IntN(2)
		a, b := anyVersion(r, how), anyVersion(r, how)
		leadsTo(t, how, a, b)
		leadsTo(t, how, a, a)
		leadsTo(t, how, api.Version{}, b)
		leadsTo(t, how, a, api.Version{})
		if c := bent(r, how, a); edit.Check(how, c) == api.OK {
			leadsTo(t, how, a, c)
			leadsTo(t, how, c, a)
		}
	}
}

// P13.7: the greatest change that an edit can say; one more is refused, as such an edit can't be.
func TestFromOneToTheOtherMost(t *testing.T) {
	for _, how := range hows() {
		leadsTo(t, how, at(1, row(how, 512, 1)...), at(2, row(how, 512, 1)...))
		leadsTo(t, how, api.Version{}, version(fallen(1000, 1), row(how, 24, 5000)))
		leadsTo(t, how, at(1, row(how, 1024, 1)...), api.Version{})
		a, b := at(1, row(how, 512, 1)...), at(1, row(how, 513, 2000)...)
		e := edit.Between(a, b)
		if len(e.Gone) != 512 || len(e.Added) != 513 {
			t.Errorf("how %d: %d gone, %d added", how, len(e.Gone), len(e.Added))
		}
		if v, why := edit.Apply(how, a, e); why != api.ErrLong || !same(v, api.Version{}) {
			t.Errorf("how %d: %d", how, why)
		}
	}
}

// P13.8
func TestAddedAndGoneAgain(t *testing.T) {
	many := 0
	for seed := range uint64(10000) {
		r := chance(seed)
		how := r.IntN(2)
		v := anyVersion(r, how)
		e := api.Edit{Added: anyChange(r, how, v).Added}
		w, why := edit.Apply(how, v, e)
		if why != api.OK {
			continue
		}
		many += len(e.Added)
		var back api.Edit
		for _, a := range e.Added {
			back.Gone = append(back.Gone, gone(a.Level, a.File.Number))
		}
		r.Shuffle(len(back.Gone), func(i, j int) { back.Gone[i], back.Gone[j] = back.Gone[j], back.Gone[i] })
		if x, why := edit.Apply(how, w, back); why != api.OK || !same(x, v) {
			t.Fatalf("seed %d: %s, then %s: %s, %d, want %s", seed, short(e), short(back), short(x), why, short(v))
		}
	}
	if many < 1000 {
		t.Errorf("only %d were added", many)
	}
}

// P13.6: an edit that went there and back does the same.
func TestAppliedBehindBytes(t *testing.T) {
	for seed := range uint64(3000) {
		r := chance(seed)
		how := r.IntN(2)
		v := anyVersion(r, how)
		e := anyChange(r, how, v)
		b, why := edit.Encode(e)
		if why != api.OK {
			t.Fatalf("seed %d: %d", seed, why)
		}
		back, why := edit.Decode(b)
		if why != api.OK {
			t.Fatalf("seed %d: %d", seed, why)
		}
		x, whyX := edit.Apply(how, v, e)
		y, whyY := edit.Apply(how, v, back)
		if whyX != whyY || !same(x, y) {
			t.Fatalf("seed %d: %d and %d", seed, whyX, whyY)
		}
	}
}

// roomy is a list with spare room, in which something lies.
func roomy[T any](l []T, more T) []T {
	out := append(slices.Clone(l), more, more, more, more)
	return out[:len(l)]
}

// all is a list with its spare room.
func all[T any](l []T) []T { return l[:cap(l)] }

// held is something handed in: all that it has, spare room too.
func held(v api.Version, e api.Edit) string {
	s := fmt.Sprintf("%#v %#v %#v", e, all(e.Gone), all(e.Added))
	for _, l := range v.Levels {
		s += fmt.Sprintf("%#v", all(l))
	}
	return s
}

// roomyVersion is a version whose lists have spare room.
func roomyVersion(r *rand.Rand, how int) api.Version {
	v := anyVersion(r, how)
	for i, l := range v.Levels {
		v.Levels[i] = roomy(l, file(99, "x", "y"))
	}
	return v
}

// scribble writes over lists, spare room too.
func scribble[T any](x T, lists ...[]T) {
	for _, l := range lists {
		for i := range all(l) {
			all(l)[i] = x
		}
	}
}

// Memory: what is handed in is neither changed nor kept, and answers share nothing.
func TestMemory(t *testing.T) {
	for seed := range uint64(500) {
		r := chance(seed)
		how := r.IntN(2)
		v, w := roomyVersion(r, how), roomyVersion(r, how)
		e := edit.Between(v, w)
		e.Gone, e.Added = roomy(e.Gone, gone(5, 98)), roomy(e.Added, added(5, file(97, "x", "y")))
		wasV, wasW := held(v, e), held(w, e)
		look := func() string { return fmt.Sprint(held(v, e) == wasV, held(w, e) == wasW) }

		made, why := edit.Apply(how, v, e)
		if why != api.OK {
			t.Fatalf("seed %d: %d", seed, why)
		}
		again, _ := edit.Apply(how, v, e)
		scribble(file(1000, "q", "r"), made.Levels[:]...)
		if !same(again, w) {
			t.Fatalf("seed %d: two answers of Apply share a list", seed)
		}
		for level := range 7 {
			l, _ := edit.Overlaps(how, v, level, user(how, 0), user(how, users))
			scribble(file(1000, "q", "r"), l)
		}
		scribble(7, edit.Files(v))
		d, f := edit.Between(v, w), edit.Between(v, w)
		scribble(gone(3, 3), d.Gone)
		scribble(added(3, file(1000, "q", "r")), d.Added)
		if !edit.Same(e, f) {
			t.Fatalf("seed %d: two answers of Between share a list", seed)
		}
		b, _ := edit.Encode(e)
		c, _ := edit.Encode(e)
		scribble(0, b)
		back, why := edit.Decode(c)
		if why != api.OK {
			t.Fatalf("seed %d: %d", seed, why)
		}
		scribble(0, c)
		if !edit.Same(back, e) {
			t.Fatalf("seed %d: what was read hangs on the bytes", seed)
		}
		scribble(gone(3, 3), back.Gone)
		scribble(added(3, file(1000, "q", "r")), back.Added)
		if look() != "true true" {
			t.Fatalf("seed %d: what was handed in was changed", seed)
		}
	}
}

// Memory: lists of one answer share nothing, not even spare room.
func TestMemoryOfOneAnswer(t *testing.T) {
	for seed := range uint64(500) {
		r := chance(seed)
		how := r.IntN(2)
		v := roomyVersion(r, how)
		w, why := edit.Apply(how, v, api.Edit{})
		if why != api.OK {
			t.Fatal(why)
		}
		for i := range w.Levels {
			scribble(file(1000, "q", "r"), w.Levels[i])
			for j := i + 1; j < 7; j++ {
				if !slices.Equal(w.Levels[j], v.Levels[j]) {
					t.Fatalf("seed %d: levels %d and %d share a list", seed, i, j)
				}
			}
		}
	}
}

// Memory: what is refused changes nothing.
func TestRefusedChangesNothing(t *testing.T) {
	for seed := range uint64(3000) {
		r := chance(seed)
		how := r.IntN(2)
		v := roomyVersion(r, how)
		e := anyChange(r, how, v)
		e.Gone, e.Added = roomy(e.Gone, gone(5, 98)), roomy(e.Added, added(5, file(97, "x", "y")))
		was := held(v, e)
		if w, why := edit.Apply(how, v, e); why != api.OK && !same(w, api.Version{}) {
			t.Fatalf("seed %d: %s beside %d", seed, short(w), why)
		}
		if held(v, e) != was {
			t.Fatalf("seed %d: what was handed in was changed", seed)
		}
	}
}
