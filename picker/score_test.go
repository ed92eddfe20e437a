package picker_test

import (
	"math"
	"slices"
	"testing"

	"sediment/api"
	"sediment/picker"
)

const most = math.MaxUint64

// P17.1
func TestLimitsKnown(t *testing.T) {
	for _, c := range []struct {
		trigger     int
		base, times uint64
		want        [api.Levels]uint64
	}{
		{4, 100, 10, [7]uint64{4, 100, 1000, 10000, 100000, 1000000, most}},
		{1, 1, 1, [7]uint64{1, 1, 1, 1, 1, 1, most}},
		{2, 7, 3, [7]uint64{2, 7, 21, 63, 189, 567, most}},
		{3, 1 << 60, 2, [7]uint64{3, 1 << 60, 1 << 61, 1 << 62, 1 << 63, most, most}},
		{3, 1 << 60, 15, [7]uint64{3, 1 << 60, 15 << 60, most, most, most, most}},
		{3, 1 << 60, 16, [7]uint64{3, 1 << 60, most, most, most, most, most}},
		{3, most, 1, [7]uint64{3, most, most, most, most, most, most}},
		{3, most, 2, [7]uint64{3, most, most, most, most, most, most}},
		{3, 1, most, [7]uint64{3, 1, most, most, most, most, most}},
		{3, most, most, [7]uint64{3, most, most, most, most, most, most}},
		{3, 1 << 32, 1 << 32, [7]uint64{3, 1 << 32, most, most, most, most, most}},
		{3, 1<<32 - 1, 1<<32 + 1, [7]uint64{3, 1<<32 - 1, most, most, most, most, most}},
		{math.MaxInt, 5, 2, [7]uint64{math.MaxInt, 5, 10, 20, 40, 80, most}},
		// of options that can't be
		{0, 0, 0, [7]uint64{6: most}},
		{-1, 5, 2, [7]uint64{0, 5, 10, 20, 40, 80, most}},
		{math.MinInt, 5, 0, [7]uint64{0, 5, 0, 0, 0, 0, most}},
		{2, 0, 7, [7]uint64{2, 0, 0, 0, 0, 0, most}},
		{2, most, 0, [7]uint64{2, most, 0, 0, 0, 0, most}},
		{2, 0, most, [7]uint64{2, 0, 0, 0, 0, 0, most}},
	} {
		for _, how := range append(hows(), wrongHows()...) {
			for _, table := range []uint64{0, 1, most} {
				o := api.Options{How: how, Trigger: c.trigger, Base: c.base, Times: c.times, Table: table}
				if got := picker.Limits(o); got != c.want {
					t.Errorf("Limits(%+v) = %v, want %v", o, got, c.want)
				}
			}
		}
	}
}

// P17.1: what is named plays a part, nothing else.
func TestLimitsOfOtherFields(t *testing.T) {
	o := api.Options{Trigger: 2, Base: 3, Times: 5, Write: -1, Slow: -1, Stop: -1, Block: -1, Restart: -1, Bits: -1, Immutables: -1}
	if got, want := picker.Limits(o), ([7]uint64{2, 3, 15, 75, 375, 1875, most}); got != want {
		t.Errorf("%v, want %v", got, want)
	}
}

// pair is a level and its score.
type pair [2]uint64

// wanting is scores, in the order in which they are given.
func wanting(pairs ...pair) []api.Score {
	var l []api.Score
	for _, p := range pairs {
		l = append(l, api.Score{Level: int(p[0]), Score: p[1]})
	}
	return l
}

// levels is a version with one file in each level, of these sizes.
func levels(sizes [api.Levels]uint64) api.Version {
	var v api.Version
	for i, n := range sizes {
		v.Levels[i] = []api.File{file(uint64(i+1), n, "a", "b")}
	}
	return v
}

// P17.1
func TestScoresKnown(t *testing.T) {
	for _, c := range []struct {
		name string
		o    api.Options
		v    api.Version
		want []api.Score
	}{
		{"no files: as many of all, the lower level first", options(0), api.Version{},
			wanting(pair{0, 0}, pair{1, 0}, pair{2, 0}, pair{3, 0}, pair{4, 0}, pair{5, 0})},
		{"level 0 by its files, the others by their bytes", options(0), levels([7]uint64{most, 100, 1500, 3000, 400000, 50000, most}),
			wanting(pair{4, 4000}, pair{2, 1500}, pair{1, 1000}, pair{0, 500}, pair{3, 300}, pair{5, 50})},
		{"without fractions", api.Options{Trigger: 3, Base: 3, Times: 1, Table: 1}, levels([7]uint64{0, 1, 2, 3, 4, 5, 6}),
			wanting(pair{5, 1666}, pair{4, 1333}, pair{3, 1000}, pair{2, 666}, pair{0, 333}, pair{1, 333})},
		{"just under a thousand", api.Options{Trigger: 1001, Base: 1001, Times: 1, Table: 1}, levels([7]uint64{0, 1000, 1001, 1002, 1, 2, 0}),
			wanting(pair{2, 1000}, pair{3, 1000}, pair{1, 999}, pair{5, 1}, pair{0, 0}, pair{4, 0})},
		{"bytes that are too many", api.Options{Trigger: 1, Base: most / 2, Times: 1, Table: 1}, version(nil, []api.File{file(1, most, "a", "b"), file(2, 1, "c", "d")}),
			wanting(pair{1, 2}, pair{0, 0}, pair{2, 0}, pair{3, 0}, pair{4, 0}, pair{5, 0})},
		{"a product that is just not too great", api.Options{Trigger: 1, Base: 1000, Times: 1, Table: 1}, version(nil, []api.File{file(1, most/1000, "a", "b")}),
			wanting(pair{1, most / 1000}, pair{0, 0}, pair{2, 0}, pair{3, 0}, pair{4, 0}, pair{5, 0})},
		{"a product that is just too great", api.Options{Trigger: 1, Base: 1, Times: 1, Table: 1}, version(nil, []api.File{file(1, most/1000+1, "a", "b")}),
			wanting(pair{1, most}, pair{0, 0}, pair{2, 0}, pair{3, 0}, pair{4, 0}, pair{5, 0})},
		{"a limit that is as great as can be", api.Options{Trigger: math.MaxInt, Base: most, Times: most, Table: most}, levels([7]uint64{0, most, most, 0, 0, 0, 0}),
			wanting(pair{1, 1}, pair{2, 1}, pair{0, 0}, pair{3, 0}, pair{4, 0}, pair{5, 0})},
	} {
		for _, how := range hows() {
			o := c.o
			o.How = how
			got, why := picker.Scores(o, turnedVersion(how, c.v))
			if !slices.Equal(got, c.want) || why != api.OK {
				t.Errorf("%s, how %d: %v, %d, want %v", c.name, how, got, why, c.want)
			}
		}
	}
}

// P17.1: level 6 has no score, whatever it has.
func TestScoresOfLevel6(t *testing.T) {
	v := api.Version{}
	v.Levels[6] = []api.File{file(1, most, "a", "b"), file(2, most, "c", "d")}
	got, why := picker.Scores(options(0), v)
	if want := wanting(pair{0, 0}, pair{1, 0}, pair{2, 0}, pair{3, 0}, pair{4, 0}, pair{5, 0}); !slices.Equal(got, want) || why != api.OK {
		t.Errorf("%v, %d", got, why)
	}
}

// P17.1: the sum of a level's sizes stops at 2^64 - 1, and does not begin anew, however often it would.
func TestScoresOfGreatSums(t *testing.T) {
	for _, sizes := range [][]uint64{{most, 1}, {1, most}, {most, most, most}, {1 << 63, 1 << 63}, {1 << 63, 1<<63 - 1}, {most}, {most, 0}, {1 << 62, 1 << 62, 1 << 62, 1 << 62, 5}} {
		var l []api.File
		for i, n := range sizes {
			l = append(l, file(uint64(i), n, string(rune('a'+i)), string(rune('a'+i))))
		}
		for level := 1; level < 6; level++ {
			got, why := picker.Scores(api.Options{Trigger: 1, Base: 1 << 62, Times: 1, Table: 1}, at(level, l, nil))
			// a thousand times that stops likewise, and 2^64 - 1 by 2^62 is 3
			if why != api.OK || got[0] != (api.Score{Level: level, Score: 3}) {
				t.Errorf("level %d, sizes %v: %v, %d", level, sizes, got, why)
			}
		}
	}
}

// P17.1: how many bytes level 0 has, and how many files the others, plays no part.
func TestScoresOfFilesAndBytes(t *testing.T) {
	v := version([]api.File{file(9, most, "a", "b"), file(8, most, "a", "b"), file(7, 0, "a", "b")},
		[]api.File{file(1, 0, "a", "b"), file(2, 1, "c", "d"), file(3, 0, "e", "f")})
	got, why := picker.Scores(api.Options{Trigger: 6, Base: 2, Times: 1, Table: 1}, v)
	if want := wanting(pair{0, 500}, pair{1, 500}, pair{2, 0}, pair{3, 0}, pair{4, 0}, pair{5, 0}); !slices.Equal(got, want) || why != api.OK {
		t.Errorf("%v, %d", got, why)
	}
}

// P17.1: Table is not looked at but for whether it can be, nor are the fields that the chapter does not name.
func TestScoresOfOtherFields(t *testing.T) {
	for _, how := range hows() {
		o := options(how)
		want, _ := picker.Scores(o, small(how))
		for _, table := range []uint64{1, 2, most} {
			o.Table, o.Write, o.Slow, o.Stop, o.Block, o.Restart, o.Bits, o.Immutables = table, -1, -1, -1, -1, -1, -1, -1
			if got, why := picker.Scores(o, small(how)); !slices.Equal(got, want) || why != api.OK {
				t.Errorf("how %d: %v, %d, want %v", how, got, why, want)
			}
		}
	}
}

// P17.1
func TestScoresRefuse(t *testing.T) {
	for _, how := range hows() {
		for _, o := range wrongOptions() {
			o.How = how
			for _, v := range wrongVersions(how) { // options come first
				if l, why := picker.Scores(o, v); len(l) != 0 || why != api.ErrArg {
					t.Errorf("%+v: %v, %d", o, l, why)
				}
			}
			if l, why := picker.Scores(o, small(how)); len(l) != 0 || why != api.ErrArg {
				t.Errorf("%+v: %v, %d", o, l, why)
			}
		}
		for want, v := range wrongVersions(how) {
			if l, why := picker.Scores(options(how), v); len(l) != 0 || why != want {
				t.Errorf("how %d: %v, %d, want %d", how, l, why, want)
			}
		}
	}
	for _, how := range wrongHows() {
		if l, why := picker.Scores(options(how), small(0)); len(l) != 0 || why != api.ErrArg {
			t.Errorf("how %d: %v, %d", how, l, why)
		}
	}
}
