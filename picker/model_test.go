package picker_test

import (
	"math"
	"math/big"
	"math/rand/v2"
	"slices"
	"strings"
	"testing"

	"sediment/api"
	"sediment/edit"
	"sediment/picker"
)

// What follows answers in the chapter's words, one after the other, what the package answers.

// ordered orders user keys by chapter 1's words.
func ordered(how int, a, b string) int {
	if how == api.Reverse {
		return strings.Compare(b, a)
	}
	return strings.Compare(a, b)
}

// lies tells whether a file lies over a range, both ends with.
func lies(how int, f api.File, begin, end string) bool {
	return ordered(how, f.Largest.User, begin) >= 0 && ordered(how, f.Smallest.User, end) <= 0
}

// ends is the least and the greatest of all files' User keys.
func ends(how int, l []api.File) (string, string) {
	if len(l) == 0 {
		return "", ""
	}
	begin, end := l[0].Smallest.User, l[0].Smallest.User
	for _, f := range l {
		for _, k := range []api.Key{f.Smallest, f.Largest} {
			if ordered(how, k.User, begin) < 0 {
				begin = k.User
			}
			if ordered(how, k.User, end) > 0 {
				end = k.User
			}
		}
	}
	return begin, end
}

// overlapped is what edit.Overlaps tells.
func overlapped(how int, v api.Version, level int, begin, end string) []api.File {
	in := map[uint64]bool{}
	for _, f := range v.Levels[level] {
		in[f.Number] = lies(how, f, begin, end)
	}
	for more := level == 0; more; {
		more = false
		for _, f := range v.Levels[0] {
			for _, g := range v.Levels[0] {
				if in[g.Number] && !in[f.Number] && lies(how, f, g.Smallest.User, g.Largest.User) {
					in[f.Number], more = true, true
				}
			}
		}
	}
	return those(v.Levels[level], in)
}

// those is a level's files that are in, in its order.
func those(level []api.File, in map[uint64]bool) []api.File {
	var l []api.File
	for _, f := range level {
		if in[f.Number] {
			l = append(l, f)
		}
	}
	return l
}

// extended is the From that some files of a level make.
func extended(how int, v api.Version, level int, some []api.File) []api.File {
	if level == 0 {
		begin, end := ends(how, some)
		return overlapped(how, v, 0, begin, end)
	}
	in := map[uint64]bool{}
	for _, f := range some {
		in[f.Number] = true
	}
	for more := true; more; {
		more = false
		for _, f := range v.Levels[level] {
			for _, g := range v.Levels[level] {
				if in[g.Number] && !in[f.Number] && (f.Smallest.User == g.Largest.User || f.Largest.User == g.Smallest.User) {
					in[f.Number], more = true, true
				}
			}
		}
	}
	return those(v.Levels[level], in)
}

// madeOf is the job that is made from some files of a level.
func madeOf(how int, v api.Version, level int, some []api.File) api.Job {
	from := extended(how, v, level, some)
	into := intoOf(how, v, level, from)
	all := append(slices.Clone(from), into...)
	if len(into) > 0 {
		begin, end := ends(how, all)
		more := extended(how, v, level, overlapped(how, v, level, begin, end))
		if len(more) > len(from) && slices.Equal(intoOf(how, v, level, more), into) {
			from = more
			all = append(slices.Clone(from), into...)
		}
	}
	begin, end := ends(how, all)
	return api.Job{Level: level, To: level + 1, From: from, Into: into, Begin: begin, End: end}
}

func intoOf(how int, v api.Version, level int, from []api.File) []api.File {
	begin, end := ends(how, from)
	return overlapped(how, v, level+1, begin, end)
}

// isBusy tells whether a file of a job is busy.
func isBusy(j api.Job, busy []uint64) bool {
	for _, f := range append(slices.Clone(j.From), j.Into...) {
		if slices.Contains(busy, f.Number) {
			return true
		}
	}
	return false
}

// stopped is a number, or the greatest one, if it is more.
func stopped(n *big.Int) *big.Int {
	most := new(big.Int).SetUint64(math.MaxUint64)
	if n.Cmp(most) > 0 {
		return most
	}
	return n
}

func number(n uint64) *big.Int { return new(big.Int).SetUint64(n) }

// limits is what Limits tells.
func limits(o api.Options) [7]uint64 {
	var l [7]uint64
	if o.Trigger > 0 {
		l[0] = uint64(o.Trigger)
	}
	n := number(o.Base)
	for level := 1; level < 6; level++ {
		l[level] = n.Uint64()
		n = stopped(n.Mul(n, number(o.Times)))
	}
	l[6] = math.MaxUint64
	return l
}

// scores is what Scores tells of what can be.
func scores(o api.Options, v api.Version) []api.Score {
	var l []api.Score
	for level := range 6 {
		n := number(uint64(len(v.Levels[0])))
		if level > 0 {
			n = number(0)
			for _, f := range v.Levels[level] {
				n.Add(n, number(f.Size))
			}
		}
		n = stopped(n.Mul(stopped(n), number(1000)))
		l = append(l, api.Score{Level: level, Score: n.Div(n, number(limits(o)[level])).Uint64()})
	}
	for i := range l {
		for j := i + 1; j < len(l); j++ {
			if l[j].Score > l[i].Score || l[j].Score == l[i].Score && l[j].Level < l[i].Level {
				l[i], l[j] = l[j], l[i]
			}
		}
	}
	return l
}

// tried is a level's files as they are tried.
func tried(v api.Version, level int) []api.File {
	var l []api.File
	for _, f := range v.Levels[level] {
		at := 0
		if level > 0 {
			for at < len(l) && l[at].Size >= f.Size {
				at++
			}
		}
		l = slices.Insert(l, at, f)
	}
	return l
}

// picked is what Pick tells of what can be.
func picked(o api.Options, v api.Version, busy []uint64) (api.Job, bool) {
	for _, s := range scores(o, v) {
		if s.Score < 1000 {
			return api.Job{}, false
		}
		for _, f := range tried(v, s.Level) {
			if j := madeOf(o.How, v, s.Level, []api.File{f}); !isBusy(j, busy) {
				return j, true
			}
		}
	}
	return api.Job{}, false
}

// ranged is what Range tells of what can be.
func ranged(o api.Options, v api.Version, level int, begin, end string, busy []uint64) (api.Job, bool, api.Errno) {
	some := overlapped(o.How, v, level, begin, end)
	if len(some) == 0 {
		return api.Job{}, false, api.OK
	}
	j := madeOf(o.How, v, level, some)
	if isBusy(j, busy) {
		return api.Job{}, false, api.ErrBusy
	}
	return j, true, api.OK
}

// rising tells whether some files are a level's, in its order, each once.
func rising(some, level []api.File) bool {
	last := -1
	for _, f := range some {
		i := slices.Index(level, f)
		if i <= last {
			return false
		}
		last = i
	}
	return true
}

// checked is what Check tells of options and a version that can be.
func checked(o api.Options, v api.Version, j api.Job) api.Errno {
	if j.Level < 0 || j.Level > 5 || j.To != j.Level+1 || len(j.From) == 0 {
		return api.ErrArg
	}
	if !rising(j.From, v.Levels[j.Level]) || !rising(j.Into, v.Levels[j.To]) {
		return api.ErrArg
	}
	if begin, end := ends(o.How, append(slices.Clone(j.From), j.Into...)); j.Begin != begin || j.End != end {
		return api.ErrArg
	}
	for _, f := range intoOf(o.How, v, j.Level, j.From) {
		if !slices.Contains(j.Into, f) {
			return api.ErrOverlap
		}
	}
	for _, f := range v.Levels[j.Level] {
		if slices.Contains(j.From, f) {
			continue
		}
		older, over, beside := false, false, false
		for _, g := range j.From {
			older = older || f.Number < g.Number
			over = over || lies(o.How, f, g.Smallest.User, g.Largest.User)
			beside = beside || f.Smallest.User == g.Largest.User || f.Largest.User == g.Smallest.User
		}
		if j.Level == 0 && older && over || j.Level > 0 && beside {
			return api.ErrOverlap
		}
	}
	return api.OK
}

// cut is what Cuts tells of a job that passes.
func cut(o api.Options, j api.Job, most int) []string {
	files := slices.Clone(j.Into)
	if j.Level == 0 {
		files = append(files, j.From...)
	}
	var l []string
	for _, f := range files {
		u := f.Smallest.User
		if ordered(o.How, u, j.Begin) <= 0 || ordered(o.How, u, j.End) > 0 || slices.Contains(l, u) {
			continue
		}
		at := 0
		for at < len(l) && ordered(o.How, l[at], u) < 0 {
			at++
		}
		l = slices.Insert(l, at, u)
	}
	if len(l) <= most-1 {
		return l
	}
	var out []string
	for i := 1; i <= most-1; i++ {
		if u := l[i*len(l)/most]; !slices.Contains(out, u) {
			out = append(out, u)
		}
	}
	return out
}

// P17.1 to P17.5: whatever can be, all is as the model tells it.
func TestAsTheModel(t *testing.T) {
	for seed := range uint64(30000) {
		r := chance(seed)
		how := r.IntN(2)
		o, v, busy := anyOptions(r, how), anyVersion(r, how), anyBusy(r)
		fine(t, how, v)
		if got := picker.Limits(o); got != limits(o) {
			t.Fatalf("seed %d: Limits(%+v) = %v", seed, o, got)
		}
		if got, why := picker.Scores(o, v); !slices.Equal(got, scores(o, v)) || why != api.OK {
			t.Fatalf("seed %d: Scores = %v, %d, want %v", seed, got, why, scores(o, v))
		}
		j, is, why := picker.Pick(o, v, busy)
		if want, there := picked(o, v, busy); !sameJob(j, want) || is != there || why != api.OK {
			t.Fatalf("seed %d: Pick(%s, %v) = %s, %t, %d, want %s, %t", seed, short(v), busy, told(j), is, why, told(want), there)
		}
		if is {
			asTheModel(t, r, seed, o, v, j)
		}
		level, begin, end := r.IntN(6), user(how, r.IntN(users)), user(how, r.IntN(users))
		j, is, why = picker.Range(o, v, level, begin, end, busy)
		if want, there, whyNot := ranged(o, v, level, begin, end, busy); !sameJob(j, want) || is != there || why != whyNot {
			t.Fatalf("seed %d: Range(%s, %d, %q, %q, %v) = %s, %t, %d, want %s, %t, %d", seed, short(v), level, begin, end, busy, told(j), is, why, told(want), there, whyNot)
		}
		if is {
			asTheModel(t, r, seed, o, v, j)
		}
		asTheModel(t, r, seed, o, v, anyJob(r, how, v))
	}
}

// asTheModel holds what a job is told against the model's words.
func asTheModel(t *testing.T, r *rand.Rand, seed uint64, o api.Options, v api.Version, j api.Job) {
	t.Helper()
	want := checked(o, v, j)
	if why := picker.Check(o, v, j); why != want {
		t.Fatalf("seed %d: Check(%s, %s) = %d, want %d", seed, short(v), told(j), why, want)
	}
	moves := want == api.OK && len(j.Into) == 0 && len(j.From) == 1
	if got := picker.Moves(o, v, j); got != moves {
		t.Fatalf("seed %d: Moves(%s, %s) = %t", seed, short(v), told(j), got)
	}
	most := 1 + r.IntN(6)
	var cuts []string
	if want == api.OK {
		cuts = cut(o, j, most)
	}
	if got, why := picker.Cuts(o, v, j, most); !slices.Equal(got, cuts) || why != want {
		t.Fatalf("seed %d: Cuts(%s, %s, %d) = %q, %d, want %q, %d", seed, short(v), told(j), most, got, why, cuts, want)
	}
}

// anyJob is a job of files of a level and of the next one, which may pass or not, with something that is wrong now and then.
func anyJob(r *rand.Rand, how int, v api.Version) api.Job {
	level := r.IntN(6)
	some := func(l []api.File, chance int) []api.File {
		var out []api.File
		for _, f := range l {
			if r.IntN(chance) > 0 {
				out = append(out, f)
			}
		}
		return out
	}
	j := api.Job{Level: level, To: level + 1, From: some(v.Levels[level], 3), Into: some(v.Levels[level+1], 5)}
	j.Begin, j.End = ends(how, append(slices.Clone(j.From), j.Into...))
	switch r.IntN(40) {
	case 0:
		j.To = r.IntN(8) - 1
	case 1:
		j.Begin = user(how, r.IntN(users))
	case 2:
		j.End = user(how, r.IntN(users))
	case 3:
		slices.Reverse(j.From)
	case 4:
		slices.Reverse(j.Into)
	case 5:
		j.From = append(j.From, j.From...)
	case 6:
		j.From, j.Into = j.Into, j.From
	case 7:
		if len(j.Into) > 0 {
			j.Into[r.IntN(len(j.Into))].Entries++
		}
	}
	return j
}

// P17.1, P17.2, P17.4: versions and options that can't be answer alike, whichever call is made.
func TestErrorsAsTheModel(t *testing.T) {
	for seed := range uint64(5000) {
		r := chance(seed)
		how := r.IntN(2)
		o, v := anyOptions(r, how), anyVersion(r, how)
		switch r.IntN(4) {
		case 0:
			o = wrongOptions()[r.IntN(len(wrongOptions()))]
		case 1:
			o.How = wrongHows()[r.IntN(len(wrongHows()))]
		}
		if l := v.Levels[r.IntN(7)]; len(l) > 0 && r.IntN(2) == 0 {
			f := &l[r.IntN(len(l))]
			f.Smallest, f.Largest = f.Largest, f.Smallest
			f.Number = uint64(r.IntN(60))
		}
		want := edit.Check(o.How, v)
		if o.Trigger < 1 || o.Base < 1 || o.Times < 1 || o.Table < 1 {
			want = api.ErrArg
		}
		if want == api.OK {
			continue
		}
		if l, why := picker.Scores(o, v); len(l) != 0 || why != want {
			t.Fatalf("seed %d: Scores: %v, %d, want %d", seed, l, why, want)
		}
		if j, is, why := picker.Pick(o, v, nil); !isZero(j) || is || why != want {
			t.Fatalf("seed %d: Pick: %v, %t, %d, want %d", seed, j, is, why, want)
		}
		if j, is, why := picker.Range(o, v, r.IntN(6), "a", "z", nil); !isZero(j) || is || why != want {
			t.Fatalf("seed %d: Range: %v, %t, %d, want %d", seed, j, is, why, want)
		}
		j := anyJob(r, how, v)
		if why := picker.Check(o, v, j); why != want {
			t.Fatalf("seed %d: Check: %d, want %d", seed, why, want)
		}
		if picker.Moves(o, v, j) {
			t.Fatalf("seed %d: moves", seed)
		}
		if l, why := picker.Cuts(o, v, j, r.IntN(3)); len(l) != 0 || why != want {
			t.Fatalf("seed %d: Cuts: %q, %d, want %d", seed, l, why, want)
		}
	}
}
