package picker_test

import (
	"math/rand/v2"
	"slices"
	"testing"

	"sediment/api"
	"sediment/picker"
)

// P17.6: each job that Pick and Range tell passes, for whatever is busy.
func TestJobsPass(t *testing.T) {
	passed := 0
	for seed := range uint64(20000) {
		r := chance(1 << 32 * (seed + 1))
		how := r.IntN(2)
		o, v := anyOptions(r, how), anyVersion(r, how)
		j, is := anyTold(r, o, v, anyBusy(r))
		if !is {
			continue
		}
		passed++
		if why := picker.Check(o, v, j); why != api.OK {
			t.Fatalf("seed %d: Check(%s, %s) = %d", seed, short(v), told(j), why)
		}
	}
	if passed < 5000 {
		t.Errorf("only %d jobs", passed)
	}
}

// P17.7: what wants to is picked, if nothing is busy; and nothing else.
func TestWhatWantsToIsPicked(t *testing.T) {
	for seed := range uint64(20000) {
		r := chance(1<<40 + seed)
		how := r.IntN(2)
		o, v := anyOptions(r, how), anyVersion(r, how)
		if r.IntN(2) == 0 {
			o.Trigger, o.Base = 3+r.IntN(6), 400+r.Uint64N(1000)
		}
		scores, _ := picker.Scores(o, v)
		for _, busy := range [][]uint64{nil, {60, 61, 1 << 40}} {
			j, is, why := picker.Pick(o, v, busy)
			if is != (scores[0].Score >= 1000) || why != api.OK {
				t.Fatalf("seed %d: Pick(%s) = %s, %t, %d, with scores %v", seed, short(v), told(j), is, why, scores)
			}
			if is && j.Level != scores[0].Level {
				t.Fatalf("seed %d: %s, with scores %v", seed, told(j), scores)
			}
		}
	}
}

// numbersOfJob is the numbers of all of a job's files.
func numbersOfJob(j api.Job) []uint64 { return append(numbersOf(j.From), numbersOf(j.Into)...) }

// P17.8: jobs that are picked one behind the other, with those ahead still at work, have no file in common; at last there is none any more.
func TestNoFileInTwoJobs(t *testing.T) {
	several := 0
	for seed := range uint64(10000) {
		r := chance(1<<41 + seed)
		how := r.IntN(2)
		o, v := anyOptions(r, how), anyVersion(r, how)
		var busy []uint64
		n := 0
		for {
			j, is, why := picker.Pick(o, v, busy)
			if why != api.OK {
				t.Fatalf("seed %d: %d", seed, why)
			}
			if !is {
				break
			}
			n++
			for _, number := range numbersOfJob(j) {
				if slices.Contains(busy, number) {
					t.Fatalf("seed %d: %s, with %v busy", seed, told(j), busy)
				}
			}
			busy = append(busy, numbersOfJob(j)...)
			r.Shuffle(len(busy), func(a, b int) { busy[a], busy[b] = busy[b], busy[a] })
			k, is, _ := picker.Range(o, v, r.IntN(6), user(how, 0), user(how, users-1), busy)
			for _, number := range numbersOfJob(k) {
				if is && slices.Contains(busy, number) {
					t.Fatalf("seed %d: Range: %s, with %v busy", seed, told(k), busy)
				}
			}
		}
		if n > 1 {
			several++
		}
	}
	if several < 2000 {
		t.Errorf("only %d times several jobs", several)
	}
}

// Example 1.
func TestExample(t *testing.T) {
	o := api.Options{Trigger: 4, Base: 1 << 20, Times: 10, Table: 1 << 10}
	v := version(
		[]api.File{file(9, 1, "c", "m"), file(8, 1, "a", "d"), file(7, 1, "k", "x"), file(6, 1, "b", "c")},
		row(1, 1, "ab", "mn", "yz"))
	j, is, why := picker.Pick(o, v, nil)
	if got := told(j); got != "0>1 [9 8 7 6]+[1 2] a-x" || !is || why != api.OK {
		t.Errorf("%s, %t, %d", got, is, why)
	}
}

// roomy is a version whose lists have spare room, in which something stands.
func roomy(v api.Version) api.Version {
	for i, l := range v.Levels {
		big := append(slices.Clone(l), file(1000, 1, "spare", "spare"), file(1001, 1, "spare", "spare"))
		v.Levels[i] = big[:len(l)]
	}
	return v
}

// whole is a version with its lists' spare room.
func whole(v api.Version) api.Version {
	for i, l := range v.Levels {
		v.Levels[i] = slices.Clone(l[:cap(l)])
	}
	return v
}

// spoil overwrites a list, its spare room too.
func spoil(l []api.File) {
	l = l[:cap(l)]
	for i := range l {
		l[i] = file(2000, 2000, "spoilt", "spoilt")
	}
}

// spoilJob overwrites all that a job has.
func spoilJob(j api.Job) {
	spoil(j.From)
	spoil(j.Into)
}

// copiedJob is a job in lists of its own.
func copiedJob(j api.Job) api.Job {
	j.From, j.Into = slices.Clone(j.From), slices.Clone(j.Into)
	return j
}

// P17.2, P17.3 and the rule of memory: jobs are new, and nothing that is handed in is changed.
func TestJobsAreNewMemory(t *testing.T) {
	for seed := range uint64(3000) {
		r := chance(1<<42 + seed)
		how := r.IntN(2)
		o, v := anyOptions(r, how), roomy(anyVersion(r, how))
		before := whole(v)
		busy := append(anyBusy(r), 77, 78)
		busyBefore := slices.Clone(busy)
		busy = busy[:len(busy)-2]
		begin, end := user(how, 0), user(how, users-1)
		for _, ask := range []func() (api.Job, bool){
			func() (api.Job, bool) { j, is, _ := picker.Pick(o, v, busy); return j, is },
			func() (api.Job, bool) {
				j, is, _ := picker.Range(o, v, int(seed%6), begin, end, busy)
				return j, is
			},
		} {
			first, is := ask()
			kept := copiedJob(first)
			second, _ := ask()
			spoil(first.From)
			if !slices.Equal(first.Into, kept.Into) {
				t.Fatalf("seed %d: From and Into have memory in common", seed)
			}
			spoil(first.Into)
			if is && !sameJob(second, kept) {
				t.Fatalf("seed %d: two answers have memory in common", seed)
			}
			if third, _ := ask(); !sameJob(third, kept) {
				t.Fatalf("seed %d: what was answered was kept", seed)
			}
			if !sameVersion(before, whole(v)) || !slices.Equal(busyBefore, busy[:len(busy)+2]) {
				t.Fatalf("seed %d: an argument was changed", seed)
			}
			spoilJob(second)
		}
	}
}

// P17.1, P17.4, P17.5 and the rule of memory.
func TestListsAreNewMemory(t *testing.T) {
	for _, how := range hows() {
		o, v := options(how), roomy(small(how))
		before := whole(v)
		scores, _ := picker.Scores(o, v)
		keptScores := slices.Clone(scores)
		for i := range scores[:cap(scores)] {
			scores[:cap(scores)][i] = api.Score{Level: 99, Score: 99}
		}
		if again, _ := picker.Scores(o, v); !slices.Equal(again, keptScores) {
			t.Errorf("how %d: scores were kept", how)
		}
		j, is, _ := picker.Range(o, v, 0, turned(how, "a"), turned(how, "a"), nil)
		if !is {
			t.Fatal("there is none")
		}
		roomyJob := api.Job{Level: j.Level, To: j.To, Begin: j.Begin, End: j.End,
			From: append(slices.Clone(j.From), file(88, 1, "q", "q"))[:len(j.From)],
			Into: append(slices.Clone(j.Into), file(89, 1, "q", "q"))[:len(j.Into)]}
		from, into := slices.Clone(roomyJob.From[:cap(roomyJob.From)]), slices.Clone(roomyJob.Into[:cap(roomyJob.Into)])
		if why := picker.Check(o, v, roomyJob); why != api.OK {
			t.Fatal(why)
		}
		picker.Moves(o, v, roomyJob)
		for _, most := range []int{2, 9} {
			cuts, _ := picker.Cuts(o, v, roomyJob, most)
			kept := slices.Clone(cuts)
			for i := range cuts[:cap(cuts)] {
				cuts[:cap(cuts)][i] = "spoilt"
			}
			if again, _ := picker.Cuts(o, v, roomyJob, most); len(kept) == 0 || !slices.Equal(again, kept) {
				t.Errorf("how %d: cuts were kept: %q, %q", how, again, kept)
			}
		}
		if !slices.Equal(from, roomyJob.From[:cap(roomyJob.From)]) || !slices.Equal(into, roomyJob.Into[:cap(roomyJob.Into)]) || !sameVersion(before, whole(v)) {
			t.Errorf("how %d: an argument was changed", how)
		}
	}
}

// P17.1 to P17.5: whatever is handed in, all that is asked ends and does not panic; and is told again as it was.
func TestWhateverIsHandedIn(t *testing.T) {
	for seed := range uint64(20000) {
		r := chance(1<<43 + seed)
		o, v := anythingOf(r), anyBad(r)
		j := anyJob(r, api.Bytewise, v)
		j.Level, j.To = r.IntN(9)-1, r.IntN(9)-1
		busy := anyBusy(r)
		level, most := r.IntN(9)-1, r.IntN(6)-1
		picker.Limits(o)
		a, why := picker.Scores(o, v)
		b, whyB := picker.Scores(o, v)
		if !slices.Equal(a, b) || why != whyB || why != api.OK && len(a) > 0 {
			t.Fatalf("seed %d: Scores: %v, %d, then %v, %d", seed, a, why, b, whyB)
		}
		k, is, why := picker.Pick(o, v, busy)
		if why != whyB || !is && !isZero(k) || is && len(k.From) == 0 {
			t.Fatalf("seed %d: Pick: %s, %t, %d", seed, told(k), is, why)
		}
		k, is, why = picker.Range(o, v, level, user(0, r.IntN(users)), user(0, r.IntN(users)), busy)
		if !is && !isZero(k) || is && why != api.OK {
			t.Fatalf("seed %d: Range: %s, %t, %d", seed, told(k), is, why)
		}
		why = picker.Check(o, v, j)
		if picker.Moves(o, v, j) && why != api.OK {
			t.Fatalf("seed %d: moves, %d", seed, why)
		}
		l, whyL := picker.Cuts(o, v, j, most)
		if whyL != why && (why != api.OK || most >= 1) || whyL != api.OK && len(l) > 0 {
			t.Fatalf("seed %d: Cuts: %q, %d", seed, l, whyL)
		}
	}
}

// anythingOf are options that can be as often as not.
func anythingOf(r *rand.Rand) api.Options {
	if r.IntN(3) > 0 {
		return anyOptions(r, r.IntN(2))
	}
	return api.Options{How: r.IntN(4) - 1, Trigger: r.IntN(4) - 1, Base: r.Uint64N(3), Times: r.Uint64N(3), Table: r.Uint64N(3)}
}

// anyBad is a version that can be by one comparator, or the other, or neither.
func anyBad(r *rand.Rand) api.Version {
	v := anyVersion(r, r.IntN(2))
	for range r.IntN(3) {
		l := v.Levels[r.IntN(7)]
		if len(l) > 0 {
			f := &l[r.IntN(len(l))]
			f.Smallest.User, f.Largest.Kind = user(0, r.IntN(users)), r.IntN(4)
		}
	}
	return v
}
