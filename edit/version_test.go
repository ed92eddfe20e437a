package edit_test

import (
	"cmp"
	"math"
	"math/rand/v2"
	"slices"
	"strings"
	"testing"

	"sediment/api"
	"sediment/edit"
)

// P13.3: level 0, by numbers alone.
func TestCheckLevel0(t *testing.T) {
	for _, how := range hows() {
		for _, c := range []struct {
			name string
			l    []api.File
			want api.Errno
		}{
			{"none", nil, api.OK},
			{"one", []api.File{file(0, "k", "k")}, api.OK},
			{"falling", []api.File{file(9, "k", "k"), file(8, "k", "k"), file(3, "k", "k"), file(0, "k", "k")}, api.OK},
			{"greatest", []api.File{file(math.MaxUint64, "k", "k"), file(math.MaxUint64-1, "k", "k"), file(1, "k", "k")}, api.OK},
			{"rising", []api.File{file(3, "k", "k"), file(4, "k", "k")}, api.ErrOverlap},
			{"rising at last", []api.File{file(9, "k", "k"), file(3, "k", "k"), file(4, "k", "k")}, api.ErrOverlap},
			{"the same number", []api.File{file(3, "k", "k"), file(3, "k", "k")}, api.ErrThere},
			{"a number again", []api.File{file(9, "k", "k"), file(3, "k", "k"), file(9, "x", "x")}, api.ErrThere},
			{"rising ahead of a number again", []api.File{file(3, "k", "k"), file(9, "k", "k"), file(3, "k", "k")}, api.ErrOverlap},
			{"a number again ahead of rising", []api.File{file(3, "k", "k"), file(3, "k", "k"), file(9, "k", "k")}, api.ErrThere},
			{"behind its own end", []api.File{between(3, key("k", 1, 1), key("k", 2, 1))}, api.ErrArg},
		} {
			if why := edit.Check(how, at(0, c.l...)); why != c.want {
				t.Errorf("how %d, %s: %d, want %d", how, c.name, why, c.want)
			}
		}
	}
}

// P13.3: what may stand behind what in a level above 0.
func TestCheckLevels(t *testing.T) {
	a, c, e, g := "a", "c", "e", "g"
	for _, how := range hows() {
		if how == api.Reverse {
			a, c, e, g = "z", "y", "x", "w"
		}
		ac, open := file(1, a, c), between(1, key(a, 9, 1), end(c))
		for _, x := range []struct {
			name string
			l    []api.File
			want api.Errno
		}{
			{"one", []api.File{ac}, api.OK},
			{"one behind the other", []api.File{ac, file(2, e, g)}, api.OK},
			{"numbers may fall", []api.File{file(3, a, c), file(2, e, g)}, api.OK},
			{"the same user", []api.File{ac, file(2, c, e)}, api.ErrOverlap},
			{"the same user, further on", []api.File{ac, between(2, key(c, 0, 0), key(e, 1, 1))}, api.ErrOverlap},
			{"within", []api.File{file(1, a, e), file(2, c, c)}, api.ErrOverlap},
			{"around", []api.File{file(1, c, e), file(2, a, g)}, api.ErrOverlap},
			{"ahead", []api.File{file(1, e, g), file(2, a, c)}, api.ErrOverlap},
			{"the same", []api.File{ac, file(2, a, c)}, api.ErrOverlap},
			{"at an end that is not in the file", []api.File{open, file(2, c, e)}, api.OK},
			{"at such an end, with the same key", []api.File{open, between(2, end(c), key(e, 1, 1))}, api.OK},
			{"behind such an end", []api.File{open, file(2, e, g)}, api.OK},
			{"ahead of such an end", []api.File{between(1, key(a, 9, 1), end(e)), file(2, c, g)}, api.ErrOverlap},
			{"a range's end of a lower number", []api.File{between(1, key(a, 9, 1), key(c, api.MaxSeq-1, 2)), file(2, c, e)}, api.ErrOverlap},
			{"a put of the greatest number", []api.File{between(1, key(a, 9, 1), key(c, api.MaxSeq, 1)), file(2, c, e)}, api.ErrOverlap},
			{"a delete of the greatest number", []api.File{between(1, key(a, 9, 1), key(c, api.MaxSeq, 0)), file(2, c, e)}, api.ErrOverlap},
			{"an end of the second one plays no part", []api.File{ac, between(2, end(c), end(e))}, api.ErrOverlap},
			{"nothing but an end, and behind it", []api.File{between(1, end(c), end(c)), file(2, c, e)}, api.OK},
			{"two that are nothing but an end", []api.File{between(1, end(c), end(c)), between(2, end(c), end(c))}, api.ErrOverlap},
			{"nothing but an end, and the same on", []api.File{between(1, end(c), end(c)), between(2, end(c), key(e, 1, 1))}, api.ErrOverlap},
			{"an end, nothing but it, and on", []api.File{open, between(2, end(c), end(c)), file(3, c, e)}, api.OK},
			{"the third one", []api.File{ac, file(2, e, e), file(3, e, g)}, api.ErrOverlap},
			{"one key", []api.File{between(1, key(c, 5, 1), key(c, 5, 1))}, api.OK},
			{"behind its own end", []api.File{file(1, c, a)}, api.ErrArg},
			{"behind its own end by the number", []api.File{between(1, key(c, 4, 1), key(c, 5, 1))}, api.ErrArg},
			{"behind its own end by the kind", []api.File{between(1, key(c, 5, 0), key(c, 5, 1))}, api.ErrArg},
			{"behind its own end, which is not in it", []api.File{between(1, key(c, 5, 1), end(c))}, api.ErrArg},
			{"its own end ahead of the file ahead", []api.File{ac, file(2, c, a)}, api.ErrArg},
			{"its number ahead of its own end", []api.File{ac, file(1, c, a)}, api.ErrThere},
		} {
			for level := 1; level < 7; level++ {
				if why := edit.Check(how, at(level, x.l...)); why != x.want {
					t.Errorf("how %d, level %d, %s: %d, want %d", how, level, x.name, why, x.want)
				}
			}
		}
		if why := edit.Check(how, version([]api.File{file(9, a, g)}, []api.File{file(1, a, g)}, []api.File{file(2, a, g)})); why != api.OK {
			t.Errorf("how %d, levels that lie over one another: %d", how, why)
		}
	}
}

// P13.3: each error, and which comes first.
func TestCheckRefuses(t *testing.T) {
	long, kind := key(text(1025), 1, 1), key("k", 1, 3)
	number := []api.File{file(5, "k", "k")}
	for _, c := range []struct {
		name string
		v    api.Version
		want api.Errno
	}{
		{"none", api.Version{}, api.OK},
		{"most", at(6, row(0, 1024, 1)...), api.OK},
		{"too many", at(6, row(0, 1025, 1)...), api.ErrLong},
		{"most in level 0", at(0, fallen(1024, 1)...), api.OK},
		{"too many in level 0", at(0, fallen(1025, 1)...), api.ErrLong},
		{"most in several", version(fallen(1000, 1), row(0, 20, 2000), row(0, 4, 3000)), api.OK},
		{"too many in several", version(fallen(1000, 1), row(0, 20, 2000), row(0, 5, 3000)), api.ErrLong},
		{"too many ahead of a key", at(0, append([]api.File{between(1, long, long)}, fallen(1024, 1)...)...), api.ErrLong},
		{"too many ahead of a number", at(0, slices.Repeat(number, 1025)...), api.ErrLong},
		{"most, a number again", at(0, slices.Repeat(number, 1024)...), api.ErrThere},
		{"a number again in another level", version(number, nil, number), api.ErrThere},
		{"a number again in the last level", version(nil, number, nil, nil, nil, nil, []api.File{file(5, "x", "x")}), api.ErrThere},
		{"smallest ahead of largest", at(1, between(1, long, kind)), api.ErrLong},
		{"smallest ahead of largest", at(1, between(1, kind, long)), api.ErrArg},
		{"largest", at(1, between(1, key("a", 1, 1), long)), api.ErrLong},
		{"largest ahead of its number", at(1, file(5, "a", "b"), between(5, key("x", 1, 1), long)), api.ErrLong},
		{"a file ahead of a key", at(1, file(5, "b", "a"), between(6, long, long)), api.ErrArg},
		{"a level ahead of a key", version([]api.File{file(1, "a", "b"), file(2, "a", "b")}, []api.File{between(6, long, long)}), api.ErrOverlap},
		{"a key ahead of a level", version([]api.File{between(6, long, long)}, []api.File{file(1, "b", "a")}), api.ErrLong},
		{"its own end ahead of rising", at(0, file(1, "a", "b"), file(2, "b", "a")), api.ErrArg},
	} {
		if why := edit.Check(api.Bytewise, c.v); why != c.want {
			t.Errorf("%s: %d, want %d", c.name, why, c.want)
		}
		if v, why := edit.Apply(api.Bytewise, c.v, api.Edit{}); why != c.want || why == api.OK && !same(v, c.v) || why != api.OK && !same(v, api.Version{}) {
			t.Errorf("%s: Apply: %s, %d, want %d", c.name, short(v), why, c.want)
		}
		for _, how := range wrongHows() {
			if why := edit.Check(how, c.v); why != api.ErrArg {
				t.Errorf("how %d, %s: %d", how, c.name, why)
			}
			if v, why := edit.Apply(how, c.v, takes(manyGone(1025)...)); why != api.ErrArg || !same(v, api.Version{}) {
				t.Errorf("how %d, %s: Apply: %s, %d", how, c.name, short(v), why)
			}
		}
	}
	for k, want := range wrongKeys() {
		for level := range 7 {
			for _, f := range []api.File{between(7, k, key("b", 1, 1)), between(7, key("a", 1, 1), k)} {
				if why := edit.Check(api.Bytewise, at(level, f)); why != want {
					t.Errorf("level %d, %s: %d, want %d", level, short(f), why, want)
				}
			}
		}
	}
}

// ordered orders keys by a comparator, elsewhere than in the program.
func ordered(how int, a, b api.Key) int {
	c := strings.Compare(a.User, b.User)
	if how == api.Reverse {
		c = -c
	}
	return cmp.Or(c, cmp.Compare(b.Seq, a.Seq), cmp.Compare(b.Kind, a.Kind))
}

// usersOrdered orders user keys likewise.
func usersOrdered(how int, a, b string) int {
	return ordered(how, api.Key{User: a}, api.Key{User: b})
}

// keyError is what codec.Check answers.
func keyError(k api.Key) api.Errno {
	switch {
	case len(k.User) > 1024:
		return api.ErrLong
	case k.Seq > 1<<56-1 || k.Kind < 0 || k.Kind > 2:
		return api.ErrArg
	}
	return api.OK
}

// checked is what Check should answer of a version that has not too many files.
func checked(how int, v api.Version) api.Errno {
	var numbers []uint64
	for level, l := range v.Levels {
		for i, f := range l {
			if why := cmp.Or(keyError(f.Smallest), keyError(f.Largest)); why != api.OK {
				return why
			}
			if slices.Contains(numbers, f.Number) {
				return api.ErrThere
			}
			numbers = append(numbers, f.Number)
			if ordered(how, f.Smallest, f.Largest) > 0 {
				return api.ErrArg
			}
			if i == 0 {
				continue
			}
			ahead := l[i-1]
			far := usersOrdered(how, ahead.Largest.User, f.Smallest.User)
			switch {
			case level == 0 && f.Number >= ahead.Number,
				level > 0 && ordered(how, ahead.Smallest, f.Smallest) >= 0,
				level > 0 && far > 0,
				level > 0 && far == 0 && ahead.Largest != end(ahead.Largest.User):
				return api.ErrOverlap
			}
		}
	}
	return api.OK
}

// applied is what Apply should answer of a version and an edit that can be: files are put behind all others, and then a level is sorted, so that of those that are alike the one that came first stays ahead.
func applied(how int, v api.Version, e api.Edit) (api.Version, api.Errno) {
	v = copied(v)
	for _, g := range e.Gone {
		l := slices.DeleteFunc(slices.Clone(v.Levels[g.Level]), func(f api.File) bool { return f.Number == g.Number })
		if len(l) == len(v.Levels[g.Level]) {
			return api.Version{}, api.ErrNone
		}
		v.Levels[g.Level] = l
	}
	for _, a := range e.Added {
		v.Levels[a.Level] = append(v.Levels[a.Level], a.File)
	}
	slices.SortStableFunc(v.Levels[0], func(a, b api.File) int { return cmp.Compare(b.Number, a.Number) })
	for level := 1; level < 7; level++ {
		slices.SortStableFunc(v.Levels[level], func(a, b api.File) int { return ordered(how, a.Smallest, b.Smallest) })
	}
	if why := checked(how, v); why != api.OK {
		return api.Version{}, why
	}
	return v, api.OK
}

// bent is a version of which something may be other than it can be.
func bent(r *rand.Rand, how int, v api.Version) api.Version {
	v = copied(v)
	l := v.Levels[r.IntN(7)]
	if len(l) == 0 {
		return v
	}
	f := &l[r.IntN(len(l))]
	switch r.IntN(8) {
	case 0:
		f.Number = uint64(r.IntN(40))
	case 1:
		f.Smallest.User = user(how, r.IntN(users))
	case 2:
		f.Largest.User = user(how, r.IntN(users))
	case 3:
		f.Smallest = end(f.Smallest.User)
	case 4:
		f.Largest = end(f.Largest.User)
	case 5:
		f.Largest.Seq = uint64(r.IntN(20))
	case 6:
		f.Smallest.Kind = r.IntN(5) - 1
	case 7:
		i, j := r.IntN(len(l)), r.IntN(len(l))
		l[i], l[j] = l[j], l[i]
	}
	return v
}

// P13.3: Check as the model, of versions that can be and of those that nearly can.
func TestCheckAsTheModel(t *testing.T) {
	seen := map[api.Errno]int{}
	for seed := range uint64(20000) {
		r := chance(seed)
		how := r.IntN(2)
		v := anyVersion(r, how)
		fine(t, how, v)
		for range r.IntN(4) {
			v = bent(r, how, v)
		}
		why := edit.Check(how, v)
		if want := checked(how, v); why != want {
			t.Fatalf("seed %d: Check(%d, %s) = %d, want %d", seed, how, short(v), why, want)
		}
		seen[why]++
	}
	for _, why := range []api.Errno{api.OK, api.ErrArg, api.ErrThere, api.ErrOverlap} {
		if seen[why] < 50 {
			t.Errorf("%d: only %d times", why, seen[why])
		}
	}
}

// P13.4
func TestApplyKnown(t *testing.T) {
	v := version([]api.File{file(5, "f", "h"), file(3, "b", "f")}, []api.File{file(2, "a", "c"), file(1, "e", "g")})
	want := func(name string, e api.Edit, why api.Errno, w api.Version) {
		t.Helper()
		if got, x := edit.Apply(api.Bytewise, v, e); x != why || !same(got, w) {
			t.Errorf("%s: %s, %d, want %s, %d", name, short(got), x, short(w), why)
		}
	}
	none := api.Version{}
	l0, l1 := v.Levels[0], v.Levels[1]
	want("nothing", api.Edit{}, api.OK, v)
	want("other things", api.Edit{Family: 9, Make: true, Name: "f", How: 1, HasLog: true, Log: 1, HasNext: true, Next: 0, HasSeq: true, Seq: math.MaxUint64}, api.OK, v)
	want("dropped", api.Edit{Drop: true}, api.OK, v)
	want("[c, d] over [a, c]", adds(added(1, file(9, "c", "d"))), api.ErrOverlap, none)
	want("[d, d] between", adds(added(1, file(9, "d", "d"))), api.OK, version(l0, []api.File{l1[0], file(9, "d", "d"), l1[1]}))
	want("first", adds(added(1, file(9, "A", "B"))), api.OK, version(l0, []api.File{file(9, "A", "B"), l1[0], l1[1]}))
	want("last", adds(added(1, file(9, "h", "i"))), api.OK, version(l0, []api.File{l1[0], l1[1], file(9, "h", "i")}))
	want("several, in any order", adds(added(1, file(9, "h", "i")), added(1, file(8, "d", "d")), added(1, file(7, "A", "B"))), api.OK,
		version(l0, []api.File{file(7, "A", "B"), l1[0], file(8, "d", "d"), l1[1], file(9, "h", "i")}))
	want("level 0, first", adds(added(0, file(9, "a", "z"))), api.OK, version([]api.File{file(9, "a", "z"), l0[0], l0[1]}, l1))
	want("level 0, between", adds(added(0, file(4, "a", "z"))), api.OK, version([]api.File{l0[0], file(4, "a", "z"), l0[1]}, l1))
	want("level 0, last", adds(added(0, file(0, "a", "z"))), api.OK, version([]api.File{l0[0], l0[1], file(0, "a", "z")}, l1))
	want("a new level", adds(added(6, file(9, "a", "z"))), api.OK, version(l0, l1, nil, nil, nil, nil, []api.File{file(9, "a", "z")}))
	want("a number again", adds(added(3, file(1, "c", "d"))), api.ErrThere, none)
	want("a number again in level 0", adds(added(0, file(5, "c", "d"))), api.ErrThere, none)
	want("added twice", adds(added(3, file(9, "c", "d")), added(4, file(9, "c", "d"))), api.ErrThere, none)
	want("behind its own end", adds(added(1, file(9, "d", "c"))), api.ErrArg, none)
	want("gone", takes(gone(1, 2)), api.OK, version(l0, l1[1:]))
	want("gone in level 0", takes(gone(0, 3)), api.OK, version(l0[:1], l1))
	want("all gone", takes(gone(1, 1), gone(0, 5), gone(1, 2), gone(0, 3)), api.OK, none)
	want("gone in another level", takes(gone(0, 1)), api.ErrNone, none)
	want("gone twice", takes(gone(1, 2), gone(1, 2)), api.ErrNone, none)
	want("gone what is none", takes(gone(6, 77)), api.ErrNone, none)
	want("gone what is added", api.Edit{Gone: []api.Gone{gone(1, 9)}, Added: []api.Added{added(1, file(9, "d", "d"))}}, api.ErrNone, none)
	want("none ahead of over one another", api.Edit{Gone: []api.Gone{gone(1, 9)}, Added: []api.Added{added(1, file(8, "a", "z"))}}, api.ErrNone, none)
	want("can't be ahead of none", api.Edit{Gone: []api.Gone{gone(1, 9)}, Added: []api.Added{added(7, file(8, "a", "z"))}}, api.ErrArg, none)
	want("put in the place of what is gone", api.Edit{Gone: []api.Gone{gone(1, 2)}, Added: []api.Added{added(1, file(9, "a", "d"))}}, api.OK, version(l0, []api.File{file(9, "a", "d"), l1[1]}))
	want("the same number again", api.Edit{Gone: []api.Gone{gone(1, 2)}, Added: []api.Added{added(1, file(2, "b", "d"))}}, api.OK, version(l0, []api.File{file(2, "b", "d"), l1[1]}))
	want("moved down", api.Edit{Gone: []api.Gone{gone(1, 2)}, Added: []api.Added{added(2, l1[0])}}, api.OK, version(l0, l1[1:], l1[:1]))
	want("the first thing that is wrong, level by level", adds(added(2, file(9, "d", "c")), added(1, file(8, "c", "d"))), api.ErrOverlap, none)
}

// P13.4: at an end that is not in the file both may have the same User, whichever of them was there.
func TestApplyAtOpenEnds(t *testing.T) {
	for _, how := range hows() {
		a, c, e := "a", "c", "e"
		if how == api.Reverse {
			a, e = e, a
		}
		left, right := between(1, key(a, 9, 1), end(c)), file(2, c, e)
		for _, files := range [][]api.File{{left, right}, {right, left}} {
			v, why := edit.Apply(how, at(3, files[0]), adds(added(3, files[1])))
			if why != api.OK || !same(v, at(3, left, right)) {
				t.Errorf("how %d: %s, %d", how, short(v), why)
			}
		}
		// A file from that end on stands ahead of one from a key of the same User on.
		v, why := edit.Apply(how, at(3, left, right), adds(added(3, between(3, end(c), end(c)))))
		if why != api.OK || !same(v, at(3, left, between(3, end(c), end(c)), right)) {
			t.Errorf("how %d: %s, %d", how, short(v), why)
		}
	}
}

// P13.4: as many files as there may be.
func TestApplyMost(t *testing.T) {
	for _, how := range hows() {
		l := row(how, 1024, 1)
		var e api.Edit
		for _, i := range chance(1).Perm(len(l)) {
			e.Added = append(e.Added, added(1, l[i]))
		}
		full, why := edit.Apply(how, api.Version{}, e)
		if why != api.OK || !same(full, at(1, l...)) {
			t.Fatalf("how %d: %d", how, why)
		}
		one := adds(added(0, file(5000, "k", "k")))
		if v, why := edit.Apply(how, full, one); why != api.ErrLong || !same(v, api.Version{}) {
			t.Errorf("how %d, one too many: %d", how, why)
		}
		one.Gone = []api.Gone{gone(1, 700)}
		if v, why := edit.Apply(how, full, one); why != api.OK || len(v.Levels[1]) != 1023 || len(v.Levels[0]) != 1 {
			t.Errorf("how %d, one for another: %d", how, why)
		}
		var all api.Edit
		for _, f := range l {
			all.Gone = append(all.Gone, gone(1, f.Number))
		}
		if v, why := edit.Apply(how, full, all); why != api.OK || !same(v, api.Version{}) {
			t.Errorf("how %d, all gone: %d", how, why)
		}
	}
}

// anyChange is an edit of a version's tables that may be made or not.
func anyChange(r *rand.Rand, how int, v api.Version) api.Edit {
	var e api.Edit
	for level, l := range v.Levels {
		for _, f := range l {
			if r.IntN(4) == 0 {
				e.Gone = append(e.Gone, gone(level, f.Number))
			}
		}
	}
	if r.IntN(8) == 0 {
		e.Gone = append(e.Gone, gone(r.IntN(7), uint64(r.IntN(40))))
	}
	r.Shuffle(len(e.Gone), func(i, j int) { e.Gone[i], e.Gone[j] = e.Gone[j], e.Gone[i] })
	for range r.IntN(4) {
		from := r.IntN(users)
		f := file(uint64(r.IntN(80)), user(how, from), user(how, min(users, from+r.IntN(2))))
		if r.IntN(3) == 0 {
			f.Largest = end(f.Largest.User)
		}
		if r.IntN(8) == 0 {
			f.Smallest = end(f.Smallest.User)
		}
		e.Added = append(e.Added, added(r.IntN(7), f))
	}
	return e
}

// P13.4: Apply as the model.
func TestApplyAsTheModel(t *testing.T) {
	seen := map[api.Errno]int{}
	for seed := range uint64(20000) {
		r := chance(seed)
		how := r.IntN(2)
		v := anyVersion(r, how)
		for range 3 {
			e := anyChange(r, how, v)
			got, why := edit.Apply(how, v, e)
			want, whyWant := applied(how, v, e)
			if why != whyWant || !edit.Equal(got, want) {
				t.Fatalf("seed %d: Apply(%d, %s, %s) = %s, %d, want %s, %d", seed, how, short(v), short(e), short(got), why, short(want), whyWant)
			}
			seen[why]++
			if why == api.OK {
				v = got
			}
		}
	}
	for _, why := range []api.Errno{api.OK, api.ErrArg, api.ErrNone, api.ErrThere, api.ErrOverlap} {
		if seen[why] < 50 {
			t.Errorf("%d: only %d times", why, seen[why])
		}
	}
}
