package picker_test

import (
	"math"
	"slices"
	"testing"

	"sediment/api"
	"sediment/picker"
)

// numbers is a list of numbers, in few letters.
func numbers(l ...uint64) []uint64 { return l }

// P17.4
func TestCheckKnown(t *testing.T) {
	for _, c := range []struct {
		name       string
		level      int
		from, into []uint64
		want       api.Errno
	}{
		{"all of level 0", 0, numbers(29, 28, 27, 26), numbers(11, 12, 13, 14), api.OK},
		{"what hangs together", 0, numbers(29, 27), numbers(11, 12), api.OK},
		{"the older one alone", 0, numbers(27), numbers(11, 12), api.OK},
		{"the newer one alone", 0, numbers(29), numbers(11), api.ErrOverlap},
		{"the newer one alone, and more below", 0, numbers(29), numbers(11, 12), api.ErrOverlap},
		{"one that nothing lies over", 0, numbers(28), numbers(14), api.OK},
		{"two that lie apart", 0, numbers(28, 26), numbers(13, 14), api.OK},
		{"more below than lies under it", 0, numbers(28), numbers(13, 14), api.OK},
		{"all below", 0, numbers(26), numbers(11, 12, 13, 14), api.OK},
		{"one below too few, ahead", 0, numbers(29, 27), numbers(12), api.ErrOverlap},
		{"one below too few, behind", 0, numbers(29, 27), numbers(11), api.ErrOverlap},
		{"one below too few, between", 0, numbers(29, 28, 27), numbers(11, 12, 14), api.ErrOverlap},
		{"none below, but there are", 0, numbers(28), nil, api.ErrOverlap},
		{"none of level 0", 0, nil, numbers(11), api.ErrArg},
		{"nothing at all", 0, nil, nil, api.ErrArg},
		{"another order", 0, numbers(27, 29), numbers(11, 12), api.ErrArg},
		{"another order below", 0, numbers(29, 27), numbers(12, 11), api.ErrArg},
		{"one twice", 0, numbers(29, 29, 27), numbers(11, 12), api.ErrArg},
		{"one twice, not one behind the other", 0, numbers(29, 27, 29), numbers(11, 12), api.ErrArg},
		{"one twice below", 0, numbers(29, 27), numbers(11, 11, 12), api.ErrArg},
		{"one of level 1", 1, numbers(11), numbers(21, 22), api.OK},
		{"one of level 1, and all below", 1, numbers(11), numbers(21, 22, 23, 24, 25), api.OK},
		{"two of level 1 that lie apart", 1, numbers(11, 14), numbers(21, 22, 23, 24), api.OK},
		{"without what lies under the range between them", 1, numbers(11, 14), numbers(21, 22), api.ErrOverlap},
		{"nothing below", 1, numbers(14), nil, api.OK},
		{"below level 2 one that ends at its key", 2, numbers(22), numbers(31, 32), api.OK},
		{"one that begins at its end", 2, numbers(22), numbers(31), api.ErrOverlap},
		{"one whose end is not in it", 2, numbers(22), numbers(32), api.ErrOverlap},
		{"two that have the same key", 3, numbers(31, 32), nil, api.OK},
		{"the first of them alone", 3, numbers(31), nil, api.ErrOverlap},
		{"the second of them alone", 3, numbers(32), nil, api.ErrOverlap},
		{"one that has none", 3, numbers(33), numbers(41), api.OK},
		{"without what lies over it", 3, numbers(33), nil, api.ErrOverlap},
		{"three that have the same key", 3, numbers(34, 35, 36), numbers(41), api.OK},
		{"the first two of them", 3, numbers(34, 35), numbers(41), api.ErrOverlap},
		{"the last two of them", 3, numbers(35, 36), nil, api.ErrOverlap},
		{"the outer two of them", 3, numbers(34, 36), numbers(41), api.ErrOverlap},
		{"the middle one", 3, numbers(35), nil, api.ErrOverlap},
		{"into level 6", 5, numbers(51), numbers(61), api.OK},
		{"not into level 6", 5, numbers(51), nil, api.ErrOverlap},
	} {
		for _, how := range hows() {
			v := turnedVersion(how, wide())
			j := jobOf(how, v, c.level, c.from, c.into)
			if why := picker.Check(options(how), v, j); why != c.want {
				t.Errorf("%s, how %d: %d, want %d", c.name, how, why, c.want)
			}
		}
	}
}

// P17.4: of level 0 a file may stay that is newer than all that go, or that lies over none.
func TestCheckOfLevel0(t *testing.T) {
	v := version([]api.File{file(9, 1, "a", "c"), file(8, 1, "c", "e"), file(7, 1, "e", "g"), file(6, 1, "x", "z"), file(5, 1, "g", "h")})
	for _, c := range []struct {
		from []uint64
		want api.Errno
	}{
		{numbers(9), api.ErrOverlap}, // 8 lies over it, and is older
		{numbers(8), api.ErrOverlap}, // so is 7
		{numbers(7), api.ErrOverlap},
		{numbers(6), api.OK},
		{numbers(5), api.OK},
		{numbers(9, 8), api.ErrOverlap},
		{numbers(9, 8, 7), api.ErrOverlap},
		{numbers(9, 8, 7, 5), api.OK},
		{numbers(8, 7, 5), api.OK}, // 9 is newer
		{numbers(7, 5), api.OK},
		{numbers(7, 6, 5), api.OK},
		{numbers(6, 5), api.OK}, // 7 lies over 5, but is newer than both
		{numbers(9, 8, 7, 6, 5), api.OK},
		{numbers(8, 7), api.ErrOverlap},
		{numbers(8, 5), api.ErrOverlap},
		{numbers(9, 6), api.ErrOverlap},
		{numbers(9, 5), api.ErrOverlap},
	} {
		for _, how := range hows() {
			v := turnedVersion(how, v)
			if why := picker.Check(options(how), v, jobOf(how, v, 0, c.from, nil)); why != c.want {
				t.Errorf("%v, how %d: %d, want %d", c.from, how, why, c.want)
			}
		}
	}
}

// P17.4: older than one that goes, over another one that goes: these are two things, as the words have it.
func TestCheckOfOlderAndOver(t *testing.T) {
	v := version([]api.File{file(9, 1, "x", "z"), file(8, 1, "a", "b"), file(7, 1, "b", "c")})
	for _, how := range hows() {
		v := turnedVersion(how, v)
		if why := picker.Check(options(how), v, jobOf(how, v, 0, numbers(9, 7), nil)); why != api.ErrOverlap {
			t.Errorf("how %d: %d", how, why)
		}
		if why := picker.Check(options(how), v, jobOf(how, v, 0, numbers(7), nil)); why != api.OK {
			t.Errorf("how %d: %d", how, why)
		}
	}
}

// P17.4: what a job says of itself must be so.
func TestCheckOfWhatAJobSays(t *testing.T) {
	for _, how := range hows() {
		o, v := options(how), turnedVersion(how, wide())
		for level := range 6 {
			fit, is, _ := picker.Range(o, v, level, turned(how, "a"), turned(how, "z"), nil)
			if why := picker.Check(o, v, fit); !is || why != api.OK {
				t.Fatalf("level %d: %d", level, why)
			}
			wrong := func(name string, change func(j *api.Job)) {
				t.Helper()
				j := fit
				j.From, j.Into = slices.Clone(fit.From), slices.Clone(fit.Into)
				change(&j)
				if why := picker.Check(o, v, j); why != api.ErrArg {
					t.Errorf("how %d, level %d, %s: %d", how, level, name, why)
				}
			}
			for _, n := range wrongLevels() {
				wrong("another level", func(j *api.Job) { j.Level = n })
				wrong("another level, and the one below", func(j *api.Job) { j.Level, j.To = n, n+1 })
			}
			for _, n := range []int{level, level + 2, level - 1, -1, 0, math.MaxInt, math.MinInt} {
				if n != level+1 {
					wrong("another level below", func(j *api.Job) { j.To = n })
				}
			}
			wrong("the levels about", func(j *api.Job) { j.Level, j.To = j.To, j.Level })
			wrong("the files about", func(j *api.Job) { j.From, j.Into = j.Into, j.From })
			wrong("none from", func(j *api.Job) { j.From = nil })
			wrong("an empty list", func(j *api.Job) { j.From = j.From[:0] })
			wrong("another beginning", func(j *api.Job) { j.Begin += "a" })
			wrong("another end", func(j *api.Job) { j.End += "a" })
			wrong("no beginning", func(j *api.Job) { j.Begin = "" })
			wrong("no end", func(j *api.Job) { j.End = "" })
			wrong("the ends about", func(j *api.Job) { j.Begin, j.End = j.End, j.Begin })
			for i := range fit.From {
				wrong("a file that is none", func(j *api.Job) { j.From[i].Number = 99 })
				wrong("one of another size", func(j *api.Job) { j.From[i].Size++ })
				wrong("one of other entries", func(j *api.Job) { j.From[i].Entries++ })
				wrong("one of other ranges", func(j *api.Job) { j.From[i].Ranges++ })
				wrong("one of another key", func(j *api.Job) { j.From[i].Smallest.Seq-- })
				wrong("one of another last key", func(j *api.Job) { j.From[i].Largest.Seq-- })
				wrong("one of another kind", func(j *api.Job) { j.From[i].Largest.Kind = api.Delete })
				wrong("one that is there twice", func(j *api.Job) { j.From = slices.Insert(j.From, i, j.From[i]) })
			}
			for i := range fit.Into {
				wrong("a file that is none, below", func(j *api.Job) { j.Into[i].Number = 99 })
				wrong("one of another size, below", func(j *api.Job) { j.Into[i].Size++ })
				wrong("one of another key, below", func(j *api.Job) { j.Into[i].Smallest.Seq-- })
				wrong("one that is there twice, below", func(j *api.Job) { j.Into = slices.Insert(j.Into, i, j.Into[i]) })
			}
			if len(fit.From) > 1 {
				wrong("from in another order", func(j *api.Job) { slices.Reverse(j.From) })
			}
			if len(fit.Into) > 1 {
				wrong("into in another order", func(j *api.Job) { slices.Reverse(j.Into) })
			}
		}
		if why := picker.Check(o, v, api.Job{}); why != api.ErrArg {
			t.Errorf("the zero job: %d", why)
		}
	}
}

// P17.4: its ends are those of all its files, also of those below, and of those alone.
func TestCheckOfEnds(t *testing.T) {
	for _, how := range hows() {
		o, v := options(how), turnedVersion(how, wide())
		j := jobOf(how, v, 1, numbers(12), numbers(22, 23)) // e to h, over c to k
		for _, c := range []struct {
			begin, end string
			want       api.Errno
		}{{"c", "k", api.OK}, {"e", "h", api.ErrArg}, {"e", "k", api.ErrArg}, {"c", "h", api.ErrArg}, {"a", "k", api.ErrArg}, {"c", "z", api.ErrArg}, {"k", "c", api.ErrArg}} {
			j.Begin, j.End = turned(how, c.begin), turned(how, c.end)
			if why := picker.Check(o, v, j); why != c.want {
				t.Errorf("how %d, %s to %s: %d, want %d", how, c.begin, c.end, why, c.want)
			}
		}
	}
}

// P17.4: ahead of what the job says come the options, then the version.
func TestCheckRefuses(t *testing.T) {
	for _, how := range hows() {
		v := small(how)
		fit, is, why := picker.Range(options(how), v, 1, turned(how, "a"), turned(how, "a"), nil)
		if !is || why != api.OK {
			t.Fatal(why)
		}
		for _, j := range []api.Job{fit, {}, {Level: 1, To: 2, From: v.Levels[2]}} {
			for _, o := range wrongOptions() {
				o.How = how
				if why := picker.Check(o, v, j); why != api.ErrArg {
					t.Errorf("%+v: %d", o, why)
				}
				for _, v := range wrongVersions(how) {
					if why := picker.Check(o, v, j); why != api.ErrArg {
						t.Errorf("%+v: %d", o, why)
					}
				}
			}
			for want, v := range wrongVersions(how) {
				if why := picker.Check(options(how), v, j); why != want {
					t.Errorf("how %d: %d, want %d", how, why, want)
				}
			}
			for _, n := range wrongHows() {
				o := options(n)
				if why := picker.Check(o, v, j); why != api.ErrArg {
					t.Errorf("how %d: %d", n, why)
				}
			}
		}
	}
}

// P17.4: jobs with very many files end soon.
func TestCheckOfManyFiles(t *testing.T) {
	v := small(0)
	j := jobOf(0, v, 1, numbers(1), numbers(4))
	j.From = slices.Repeat(j.From, 1<<18)
	if why := picker.Check(options(0), v, j); why != api.ErrArg {
		t.Errorf("From: %d", why)
	}
	j = jobOf(0, v, 1, numbers(1), numbers(4))
	j.Into = slices.Repeat(j.Into, 1<<18)
	if why := picker.Check(options(0), v, j); why != api.ErrArg {
		t.Errorf("Into: %d", why)
	}
}
