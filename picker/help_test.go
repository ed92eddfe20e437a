package picker_test

import (
	"fmt"
	"math"
	"math/rand/v2"
	"slices"
	"strings"
	"testing"

	"sediment/api"
	"sediment/edit"
	"sediment/picker"
)

// chance is random numbers that are the same in every run.
func chance(seed uint64) *rand.Rand { return rand.New(rand.NewPCG(17, seed)) }

// hows are both comparators.
func hows() []int { return []int{api.Bytewise, api.Reverse} }

// wrongHows are numbers that are no comparator's.
func wrongHows() []int { return []int{2, 3, -1, 256, 257, math.MaxInt, math.MinInt} }

// wrongLevels are numbers of no level that has one below it.
func wrongLevels() []int { return []int{-1, 6, 7, 256, 1 << 32, math.MaxInt, math.MinInt} }

// options are such that two files of level 0 and 100 bytes of level 1 are enough.
func options(how int) api.Options {
	return api.Options{How: how, Trigger: 2, Base: 100, Times: 10, Table: 10}
}

// wrongOptions are options that can't be.
func wrongOptions() []api.Options {
	return []api.Options{
		{},
		{Trigger: 0, Base: 1, Times: 1, Table: 1},
		{Trigger: -1, Base: 1, Times: 1, Table: 1},
		{Trigger: math.MinInt, Base: 1, Times: 1, Table: 1},
		{Trigger: 1, Base: 0, Times: 1, Table: 1},
		{Trigger: 1, Base: 1, Times: 0, Table: 1},
		{Trigger: 1, Base: 1, Times: 1, Table: 0},
	}
}

func key(user string, seq uint64, kind int) api.Key {
	return api.Key{User: user, Seq: seq, Kind: kind}
}

// open is a key that is the end of a file, but not in it.
func open(user string) api.Key { return key(user, api.MaxSeq, api.RangeDelete) }

// file is a file from one user key to another one.
func file(number, size uint64, least, greatest string) api.File {
	return api.File{Number: number, Size: size, Smallest: key(least, 9, api.Put), Largest: key(greatest, 1, api.Put), Entries: 2}
}

// upTo is a file from one user key on, ahead of another one.
func upTo(number, size uint64, least, end string) api.File {
	f := file(number, size, least, end)
	f.Largest = open(end)
	return f
}

// nothing is a file that has only an end that is not in it.
func nothing(number, size uint64, user string) api.File {
	f := upTo(number, size, user, user)
	f.Smallest = open(user)
	return f
}

// version is a version with files in its first levels.
func version(levels ...[]api.File) api.Version {
	var v api.Version
	copy(v.Levels[:], levels)
	return v
}

// at is a version with files in a level and the one below it.
func at(level int, files, below []api.File) api.Version {
	var v api.Version
	v.Levels[level], v.Levels[level+1] = files, below
	return v
}

// turned is a user key of small letters that lies by Reverse as the one that is given lies by Bytewise.
func turned(how int, user string) string {
	if how == api.Bytewise {
		return user
	}
	b := []byte(user)
	for i, c := range b {
		b[i] = 'a' + 'z' - c
	}
	return string(b)
}

// turnedVersion is a version that lies by a comparator as the one that is given lies by Bytewise.
func turnedVersion(how int, v api.Version) api.Version {
	for i, l := range v.Levels {
		l = slices.Clone(l)
		for j := range l {
			l[j].Smallest.User = turned(how, l[j].Smallest.User)
			l[j].Largest.User = turned(how, l[j].Largest.User)
		}
		v.Levels[i] = l
	}
	return v
}

// fine wants a version that can be.
func fine(t *testing.T, how int, v api.Version) {
	t.Helper()
	if why := edit.Check(how, v); why != api.OK {
		t.Fatalf("edit.Check(%d, %s): %d", how, short(v), why)
	}
}

// numbersOf is the numbers of files.
func numbersOf(l []api.File) []uint64 {
	var out []uint64
	for _, f := range l {
		out = append(out, f.Number)
	}
	return out
}

// told is a job in a line.
func told(j api.Job) string {
	return fmt.Sprintf("%d>%d %v+%v %s-%s", j.Level, j.To, numbersOf(j.From), numbersOf(j.Into), j.Begin, j.End)
}

// jobOf is the job with the files that have these numbers, in the order in which they are given.
func jobOf(how int, v api.Version, level int, from, into []uint64) api.Job {
	j := api.Job{Level: level, To: level + 1, From: find(v, level, from), Into: find(v, level+1, into)}
	j.Begin, j.End = ends(how, append(slices.Clone(j.From), j.Into...))
	return j
}

// find is a level's files with these numbers.
func find(v api.Version, level int, numbers []uint64) []api.File {
	var l []api.File
	for _, n := range numbers {
		i := slices.IndexFunc(v.Levels[level], func(f api.File) bool { return f.Number == n })
		l = append(l, v.Levels[level][i])
	}
	return l
}

// isZero tells whether a job is the zero one.
func isZero(j api.Job) bool {
	return j.Level == 0 && j.To == 0 && len(j.From) == 0 && len(j.Into) == 0 && j.Begin == "" && j.End == ""
}

// sameJob tells whether two jobs are the same in all.
func sameJob(a, b api.Job) bool {
	return a.Level == b.Level && a.To == b.To && a.Begin == b.Begin && a.End == b.End &&
		slices.Equal(a.From, b.From) && slices.Equal(a.Into, b.Into)
}

// copied is a version in lists of its own.
func copied(v api.Version) api.Version {
	for i, l := range v.Levels {
		v.Levels[i] = slices.Clone(l)
	}
	return v
}

// sameVersion tells whether two versions are the same, told elsewhere than in the program.
func sameVersion(a, b api.Version) bool {
	for i := range a.Levels {
		if !slices.Equal(a.Levels[i], b.Levels[i]) {
			return false
		}
	}
	return true
}

// short is something in a line that is not too long.
func short(x any) string {
	s := fmt.Sprintf("%+v", x)
	if len(s) > 400 {
		return s[:400] + "..."
	}
	return s
}

// wrongVersions are versions that can't be by a comparator, each with edit.Check's error.
func wrongVersions(how int) map[api.Errno]api.Version {
	long := file(1, 10, strings.Repeat("a", api.MaxKey+1), "b")
	return map[api.Errno]api.Version{
		api.ErrLong:    turnedVersion(how, version([]api.File{file(9, 10, "a", "c"), file(8, 10, "b", "d")}, []api.File{long})),
		api.ErrThere:   turnedVersion(how, version([]api.File{file(9, 10, "a", "c"), file(8, 10, "b", "d")}, []api.File{file(9, 100, "a", "b")})),
		api.ErrArg:     turnedVersion(how, version([]api.File{file(9, 10, "c", "a"), file(8, 10, "b", "d")})),
		api.ErrOverlap: turnedVersion(how, version([]api.File{file(8, 10, "a", "c"), file(9, 10, "b", "d")})),
	}
}

// small is a version with something to do in level 0 and level 1.
func small(how int) api.Version {
	return turnedVersion(how, version(
		[]api.File{file(9, 5, "a", "c"), file(8, 5, "x", "z"), file(7, 5, "b", "d")},
		[]api.File{file(1, 150, "a", "b"), file(2, 50, "d", "e"), file(3, 60, "p", "q")},
		[]api.File{file(4, 10, "b", "d")}))
}

// users are the user keys of versions by chance.
const users = 12

// user is the user key with a place in the order of a comparator.
func user(how, place int) string { return turned(how, string(rune('a'+place))) }

// anyVersion is a version that can be, of few user keys, so that its files lie over one another as often as not.
func anyVersion(r *rand.Rand, how int) api.Version {
	numbers := r.Perm(60)
	next := func() uint64 {
		n := numbers[0]
		numbers = numbers[1:]
		return uint64(n)
	}
	var v api.Version
	for range r.IntN(6) {
		from := r.IntN(users)
		v.Levels[0] = append(v.Levels[0], file(next(), anySize(r), user(how, from), user(how, min(users-1, from+r.IntN(4)))))
	}
	slices.SortFunc(v.Levels[0], func(a, b api.File) int { return int(b.Number) - int(a.Number) })
	for level := 1; level < api.Levels; level++ {
		if r.IntN(4) > 0 {
			v.Levels[level] = anyRow(r, how, next)
		}
	}
	return v
}

// anyRow is files that do not lie over one another; some of them end at a key that is not in them, with which the next one may begin.
func anyRow(r *rand.Rand, how int, next func() uint64) []api.File {
	var l []api.File
	for place := r.IntN(3); place < users && len(l) < 6; {
		to := min(place+r.IntN(3), users-1)
		f := file(next(), anySize(r), user(how, place), user(how, to))
		if to > place && r.IntN(3) > 0 {
			f.Largest = open(user(how, to))
			l = append(l, f)
			if r.IntN(4) == 0 {
				l = append(l, nothing(next(), anySize(r), user(how, to)))
			}
			place = to + r.IntN(2)*r.IntN(2)
			continue
		}
		l = append(l, f)
		place = to + 1 + r.IntN(2)
	}
	return l
}

// anySize is a file's size, often the same as another one's, at times a very great one.
func anySize(r *rand.Rand) uint64 {
	switch r.IntN(20) {
	case 0:
		return math.MaxUint64 - uint64(r.IntN(3))
	case 1:
		return uint64(r.IntN(1000)) << r.IntN(60)
	}
	return uint64(r.IntN(4)) * 40
}

// anyOptions are options that can be, by which small versions have something to do.
func anyOptions(r *rand.Rand, how int) api.Options {
	return api.Options{
		How: how, Trigger: 1 + r.IntN(6), Base: 1 + uint64(r.IntN(300)), Times: 1 + uint64(r.IntN(3)), Table: 1 + r.Uint64N(9),
	}
}

// anyBusy is numbers of files, of which few are the version's.
func anyBusy(r *rand.Rand) []uint64 {
	var l []uint64
	for range r.IntN(8) * r.IntN(2) {
		l = append(l, uint64(r.IntN(60)))
	}
	return l
}

// anyTold is a job that Pick or Range tells, if they tell one.
func anyTold(r *rand.Rand, o api.Options, v api.Version, busy []uint64) (api.Job, bool) {
	if r.IntN(2) == 0 {
		j, is, _ := picker.Pick(o, v, busy)
		return j, is
	}
	a := r.IntN(users)
	j, is, _ := picker.Range(o, v, r.IntN(6), user(o.How, a), user(o.How, min(users-1, a+r.IntN(4))), busy)
	return j, is
}
