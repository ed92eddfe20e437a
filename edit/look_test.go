package edit_test

import (
	"fmt"
	"math"
	"math/rand/v2"
	"slices"
	"testing"

	"sediment/api"
	"sediment/edit"
)

// overlapped is what Overlaps should answer: as long as there is one more to tell, all are gone through again.
func overlapped(how int, v api.Version, level int, begin, end string) []api.File {
	l := v.Levels[level]
	told := make([]bool, len(l))
	lies := func(f api.File, begin, end string) bool {
		return usersOrdered(how, f.Largest.User, begin) >= 0 && usersOrdered(how, f.Smallest.User, end) <= 0
	}
	for i, f := range l {
		told[i] = lies(f, begin, end)
	}
	for more := level == 0; more; {
		more = false
		for i, f := range l {
			for j, g := range l {
				if told[j] && !told[i] && lies(f, g.Smallest.User, g.Largest.User) {
					told[i], more = true, true
				}
			}
		}
	}
	var out []api.File
	for i, f := range l {
		if told[i] {
			out = append(out, f)
		}
	}
	return out
}

// numbersOf is the numbers of files.
func numbersOf(l []api.File) []uint64 {
	var out []uint64
	for _, f := range l {
		out = append(out, f.Number)
	}
	return out
}

// P13.5
func TestOverlapsKnown(t *testing.T) {
	v := version(
		[]api.File{file(9, "f", "h"), file(8, "y", "z"), file(7, "b", "f"), file(6, "k", "k"), file(5, "a", "a")},
		[]api.File{file(1, "b", "d"), file(2, "f", "h"), between(3, key("j", 9, 1), end("l")), file(4, "l", "n")})
	for _, c := range []struct {
		level      int
		begin, end string
		want       []uint64
	}{
		{1, "a", "z", []uint64{1, 2, 3, 4}},
		{1, "", "\xff", []uint64{1, 2, 3, 4}},
		{1, "", "a", nil},
		{1, "a", "b", []uint64{1}},
		{1, "d", "d", []uint64{1}},
		{1, "d", "f", []uint64{1, 2}},
		{1, "d\x00", "e\xff", nil},
		{1, "e", "e", nil},
		{1, "c", "c", []uint64{1}},
		{1, "h", "j", []uint64{2, 3}},
		{1, "l", "l", []uint64{3, 4}}, // 3 ends there, with what is not in it
		{1, "l\x00", "m", []uint64{4}},
		{1, "k", "k", []uint64{3}},
		{1, "n\x00", "z", nil},
		{1, "g", "c", nil},         // nothing is from g on and up to c
		{1, "c", "b", []uint64{1}}, // but 1 is not ahead of c, nor behind b
		{1, "n", "l", []uint64{4}}, // likewise
		{1, "z", "", nil},          // likewise nothing
		{0, "g", "g", []uint64{9, 7}},
		{0, "c", "c", []uint64{9, 7}},
		{0, "f", "f", []uint64{9, 7}},
		{0, "k", "k", []uint64{6}},
		{0, "a", "a", []uint64{5}},
		{0, "a", "b", []uint64{9, 7, 5}},
		{0, "i", "j", nil},
		{0, "i", "y", []uint64{8, 6}},
		{0, "z", "z\xff", []uint64{8}},
		{0, "", "\xff", []uint64{9, 8, 7, 6, 5}},
		{0, "e", "c", []uint64{9, 7}},
		{0, "z", "a", nil},
		{2, "a", "z", nil},
		{6, "a", "z", nil},
	} {
		l, why := edit.Overlaps(api.Bytewise, v, c.level, c.begin, c.end)
		if !slices.Equal(numbersOf(l), c.want) || why != api.OK {
			t.Errorf("level %d, %q to %q: %v, %d, want %v", c.level, c.begin, c.end, numbersOf(l), why, c.want)
		}
		if !slices.Equal(l, overlapped(api.Bytewise, v, c.level, c.begin, c.end)) {
			t.Errorf("level %d, %q to %q: not as the model", c.level, c.begin, c.end)
		}
	}
}

// P13.5: a file may hang together with the first one by many others, which stand in any order.
func TestOverlapsChain(t *testing.T) {
	r := chance(1)
	for _, how := range hows() {
		for range 20 {
			n := 3 + r.IntN(200)
			numbers := r.Perm(2 * n)
			l := make([]api.File, 0, 2*n)
			for i := range 2 * n {
				if i == n {
					continue // there the chain is torn
				}
				users := []string{fmt.Sprintf("%06d", 2*i), fmt.Sprintf("%06d", 2*i+2)}
				if how == api.Reverse {
					slices.Reverse(users)
				}
				l = append(l, file(uint64(numbers[i]), users[0], users[1]))
			}
			slices.SortFunc(l, func(a, b api.File) int { return int(b.Number) - int(a.Number) })
			v := at(0, l...)
			fine(t, how, v)
			k := fmt.Sprintf("%06d", 2*r.IntN(n)+1)
			got, why := edit.Overlaps(how, v, 0, k, k)
			if len(got) != n || why != api.OK || !slices.Equal(got, overlapped(how, v, 0, k, k)) {
				t.Fatalf("how %d, n %d: %d files, %d", how, n, len(got), why)
			}
			// In a level above 0 just those that have the key are told.
			got, why = edit.Overlaps(how, at(5, l...), 5, k, k)
			if len(got) != 1 || why != api.OK {
				t.Fatalf("how %d, level 5: %d files, %d", how, len(got), why)
			}
		}
	}
}

// P13.5
func TestOverlapsRefuses(t *testing.T) {
	v := version(fallen(3, 1), []api.File{file(9, "a", "z")})
	for _, level := range wrongLevels() {
		for _, how := range append(wrongHows(), hows()...) {
			if l, why := edit.Overlaps(how, v, level, "a", "z"); len(l) != 0 || why != api.ErrArg {
				t.Errorf("how %d, level %d: %d files, %d", how, level, len(l), why)
			}
		}
	}
	for level := range 7 {
		for _, how := range wrongHows() {
			if l, why := edit.Overlaps(how, v, level, "a", "z"); len(l) != 0 || why != api.ErrArg {
				t.Errorf("how %d, level %d: %d files, %d", how, level, len(l), why)
			}
		}
	}
}

// anyFiles is files of a few user keys, in any order, of which some can't be.
func anyFiles(r *rand.Rand, how int) []api.File {
	var l []api.File
	for range r.IntN(9) {
		from := r.IntN(users)
		to := min(users, from+r.IntN(3))
		if r.IntN(6) == 0 {
			from, to = to, from
		}
		f := file(uint64(r.IntN(6)), user(how, from), user(how, to))
		if r.IntN(3) == 0 {
			f.Largest = end(f.Largest.User)
		}
		f.Size = uint64(r.IntN(2)) * (math.MaxUint64 / 2)
		f.Smallest.Kind = r.IntN(5) - 1
		l = append(l, f)
	}
	return l
}

// P13.5: Overlaps as the model, of versions that can be and of those that can't.
func TestOverlapsAsTheModel(t *testing.T) {
	for seed := range uint64(30000) {
		r := chance(seed)
		how := r.IntN(2)
		v := anyVersion(r, how)
		if r.IntN(2) == 0 {
			v.Levels[r.IntN(3)] = anyFiles(r, how)
		}
		level, begin, end := r.IntN(3), user(how, r.IntN(users)), user(how, r.IntN(users))
		got, why := edit.Overlaps(how, v, level, begin, end)
		if want := overlapped(how, v, level, begin, end); !slices.Equal(got, want) || why != api.OK {
			t.Fatalf("seed %d: Overlaps(%d, %s, %d, %s, %s) = %v, %d, want %v", seed, how, short(v), level, begin, end, numbersOf(got), why, numbersOf(want))
		}
	}
}

// P13.5: as many files as there may be, all of them in one chain.
func TestOverlapsMost(t *testing.T) {
	l := make([]api.File, 1024)
	for i := range l {
		l[i] = file(uint64(2000-i), text(1018)+fmt.Sprintf("%06d", i), text(1018)+fmt.Sprintf("%06d", i+1))
	}
	got, why := edit.Overlaps(api.Bytewise, at(0, l...), 0, "", text(1018)+"000000")
	if !slices.Equal(got, l) || why != api.OK {
		t.Errorf("%d files, %d", len(got), why)
	}
}

// P13.5
func TestFilesAndSize(t *testing.T) {
	v := version([]api.File{file(9, "a", "b"), file(3, "a", "b")}, nil, []api.File{file(4, "a", "b"), file(1, "c", "d")}, nil, nil, nil, []api.File{file(0, "a", "b")})
	if l := edit.Files(v); !slices.Equal(l, []uint64{0, 1, 3, 4, 9}) {
		t.Error(l)
	}
	if l := edit.Files(api.Version{}); len(l) != 0 {
		t.Error(l)
	}
	for level, want := range []uint64{120, 0, 50, 0, 0, 0, 0} {
		if n := edit.Size(v, level); n != want {
			t.Errorf("level %d: %d, want %d", level, n, want)
		}
	}
	for _, level := range wrongLevels() {
		if n := edit.Size(v, level); n != 0 {
			t.Errorf("level %d: %d", level, n)
		}
	}
	// Of a version that can't be numbers are told once, too; and sizes wrap round.
	twice := version([]api.File{{Number: 7, Size: math.MaxUint64}, {Number: 2, Size: 1 << 63}, {Number: 7, Size: 1<<63 + 5}}, []api.File{{Number: math.MaxUint64}, {Number: 2}})
	if l := edit.Files(twice); !slices.Equal(l, []uint64{2, 7, math.MaxUint64}) {
		t.Error(l)
	}
	if n := edit.Size(twice, 0); n != 4 {
		t.Error(n)
	}
	many := at(6, slices.Repeat([]api.File{{Number: 1, Size: 1 << 60}}, 17)...)
	if n := edit.Size(many, 6); n != 1<<60 {
		t.Error(n)
	}
}

// P13.5: Equal hangs on all that there is.
func TestEqual(t *testing.T) {
	base := func() api.Version {
		return version([]api.File{file(9, "a", "b"), file(8, "a", "b")}, []api.File{file(1, "c", "d")}, nil, nil, nil, nil, []api.File{file(2, "e", "f")})
	}
	for i, change := range []func(v *api.Version){
		func(v *api.Version) { v.Levels[0] = nil },
		func(v *api.Version) { v.Levels[0] = v.Levels[0][:1] },
		func(v *api.Version) { v.Levels[0] = append(v.Levels[0], api.File{}) },
		func(v *api.Version) { slices.Reverse(v.Levels[0]) },
		func(v *api.Version) { v.Levels[2], v.Levels[1] = v.Levels[1], nil },
		func(v *api.Version) { v.Levels[6] = nil },
		func(v *api.Version) { v.Levels[5] = []api.File{{}} },
		func(v *api.Version) { v.Levels[6][0].Number++ },
		func(v *api.Version) { v.Levels[0][1].Size++ },
		func(v *api.Version) { v.Levels[1][0].Entries++ },
		func(v *api.Version) { v.Levels[1][0].Ranges++ },
		func(v *api.Version) { v.Levels[1][0].Smallest.User = "x" },
		func(v *api.Version) { v.Levels[1][0].Smallest.Seq++ },
		func(v *api.Version) { v.Levels[1][0].Smallest.Kind++ },
		func(v *api.Version) { v.Levels[1][0].Largest.User = "x" },
		func(v *api.Version) { v.Levels[1][0].Largest.Seq++ },
		func(v *api.Version) { v.Levels[6][0].Largest.Kind++ },
	} {
		a, b := base(), base()
		b.Levels[3] = []api.File{}
		if !edit.Equal(a, b) || !edit.Equal(b, a) {
			t.Error("a version is not equal to itself")
		}
		change(&b)
		if edit.Equal(a, b) || edit.Equal(b, a) {
			t.Errorf("change %d: equal", i)
		}
	}
}

// P13.5
func TestBetweenKnown(t *testing.T) {
	x, y, z := file(1, "a", "b"), file(2, "c", "d"), file(3, "e", "f")
	other := x
	other.Size++
	for i, c := range []struct {
		a, b api.Version
		want api.Edit
	}{
		{api.Version{}, api.Version{}, api.Edit{}},
		{at(1, x, y), at(1, x, y), api.Edit{}},
		{api.Version{}, at(1, x, y), adds(added(1, x), added(1, y))},
		{at(1, x, y), api.Version{}, takes(gone(1, 1), gone(1, 2))},
		{at(1, x, y), at(1, y, z), api.Edit{Gone: []api.Gone{gone(1, 1)}, Added: []api.Added{added(1, z)}}},
		{at(1, x), at(2, x), api.Edit{Gone: []api.Gone{gone(1, 1)}, Added: []api.Added{added(2, x)}}},
		{at(1, x), at(1, other), api.Edit{Gone: []api.Gone{gone(1, 1)}, Added: []api.Added{added(1, other)}}},
		{version([]api.File{z, y}, []api.File{x}), version([]api.File{x}, nil, []api.File{z, y}),
			api.Edit{Gone: []api.Gone{gone(0, 3), gone(0, 2), gone(1, 1)}, Added: []api.Added{added(0, x), added(2, z), added(2, y)}}},
		// Of versions that can't be: what the other one has, however often and wherever in the level, is no change.
		{at(0, x, x), at(0, x), api.Edit{}},
		{at(0, x, y), at(0, y, x), api.Edit{}},
		{at(0, x, x), at(0, y, y), api.Edit{Gone: []api.Gone{gone(0, 1), gone(0, 1)}, Added: []api.Added{added(0, y), added(0, y)}}},
	} {
		if e := edit.Between(c.a, c.b); !exactly(e, c.want) {
			t.Errorf("%d: %s, want %s", i, short(e), short(c.want))
		}
	}
}

// P13.5: a file that is other in any one thing is gone, and added.
func TestBetweenEachField(t *testing.T) {
	f := file(1, "a", "b")
	for i, change := range []func(f *api.File){
		func(f *api.File) { f.Number++ },
		func(f *api.File) { f.Size++ },
		func(f *api.File) { f.Entries++ },
		func(f *api.File) { f.Ranges++ },
		func(f *api.File) { f.Smallest.User = "A" },
		func(f *api.File) { f.Smallest.Seq++ },
		func(f *api.File) { f.Smallest.Kind = 0 },
		func(f *api.File) { f.Largest.User = "c" },
		func(f *api.File) { f.Largest.Seq = 0 },
		func(f *api.File) { f.Largest.Kind = 0 },
	} {
		g := f
		change(&g)
		for level := range 7 {
			want := api.Edit{Gone: []api.Gone{gone(level, 1)}, Added: []api.Added{added(level, g)}}
			if e := edit.Between(at(level, f), at(level, g)); !exactly(e, want) {
				t.Errorf("change %d, level %d: %s", i, level, short(e))
			}
		}
	}
}

// P13.5: Between in the chapter's words, of any versions.
func TestBetweenAsTheModel(t *testing.T) {
	for seed := range uint64(5000) {
		r := chance(seed)
		a, b := anyVersion(r, 0), anyVersion(r, 0)
		for range r.IntN(3) {
			level := r.IntN(7)
			a.Levels[level], b.Levels[level] = anyFiles(r, 0), anyFiles(r, 0)
		}
		if r.IntN(2) == 0 {
			b = bent(r, 0, a)
		}
		var want api.Edit
		for level := range 7 {
			for _, f := range a.Levels[level] {
				if !slices.Contains(b.Levels[level], f) {
					want.Gone = append(want.Gone, gone(level, f.Number))
				}
			}
			for _, f := range b.Levels[level] {
				if !slices.Contains(a.Levels[level], f) {
					want.Added = append(want.Added, added(level, f))
				}
			}
		}
		if e := edit.Between(a, b); !exactly(e, want) {
			t.Fatalf("seed %d: %s, want %s", seed, short(e), short(want))
		}
	}
}
