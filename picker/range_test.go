package picker_test

import (
	"testing"

	"sediment/api"
	"sediment/picker"
)

// wide is a version with files in all levels.
func wide() api.Version {
	v := version(
		[]api.File{file(29, 1, "b", "d"), file(28, 1, "q", "r"), file(27, 1, "d", "g"), file(26, 1, "m", "n")},
		row(11, 1, "ac", "eh", "jm", "pt"),
		row(21, 1, "bb", "cf", "gk", "mo", "xz"),
		[]api.File{upTo(31, 1, "a", "f"), file(32, 1, "f", "h"), file(33, 1, "i", "k"), upTo(34, 1, "l", "p"), nothing(35, 1, "p"), file(36, 1, "p", "s")},
		row(41, 1, "kl"))
	v.Levels[5] = row(51, 1, "bc", "de")
	v.Levels[6] = row(61, 1, "az")
	return v
}

// P17.3
func TestRangeKnown(t *testing.T) {
	for _, c := range []struct {
		level      int
		begin, end string
		busy       []uint64
		want       string
		why        api.Errno
	}{
		// of level 0 what hangs together
		{level: 0, begin: "a", end: "b", want: "0>1 [29 27]+[11 12] a-h"},
		{level: 0, begin: "g", end: "l", want: "0>1 [29 27]+[11 12] a-h"},
		{level: 0, begin: "g", end: "m", want: "0>1 [29 27 26]+[11 12 13] a-n"},
		{level: 0, begin: "a", end: "z", want: "0>1 [29 28 27 26]+[11 12 13 14] a-t"},
		{level: 0, begin: "h", end: "l"},
		{level: 0, begin: "o", end: "p"},
		{level: 0, begin: "p", end: "q", want: "0>1 [28]+[14] p-t"},
		{level: 0, begin: "s", end: "z"},
		// of a level above 0
		{level: 1, begin: "a", end: "a", want: "1>2 [11]+[21 22] a-f"},
		{level: 1, begin: "d", end: "d"},
		{level: 1, begin: "i", end: "i"},
		{level: 1, begin: "c", end: "e", want: "1>2 [11 12]+[21 22 23] a-k"},
		{level: 1, begin: "d", end: "e", want: "1>2 [12]+[22 23] c-k"},
		{level: 1, begin: "a", end: "z", want: "1>2 [11 12 13 14]+[21 22 23 24] a-t"},
		{level: 1, begin: "p", end: "z", want: "1>2 [14]+[] p-t"},
		{level: 1, begin: "t", end: "t", want: "1>2 [14]+[] p-t"},
		{level: 1, begin: "u", end: "z"},
		{level: 2, begin: "b", end: "b", want: "2>3 [21]+[31] a-f"}, // 22 lies over 31, too, but over 32 besides
		{level: 2, begin: "g", end: "g", want: "2>3 [23]+[32 33] f-k"},
		{level: 2, begin: "y", end: "y", want: "2>3 [25]+[] x-z"},
		{level: 2, begin: "n", end: "n", want: "2>3 [24]+[34] l-p"},
		{level: 3, begin: "h", end: "h", want: "3>4 [31 32]+[] a-h"},
		{level: 3, begin: "s", end: "z", want: "3>4 [33 34 35 36]+[41] i-s"}, // 34 ends where 36 begins
		{level: 3, begin: "p", end: "p", want: "3>4 [33 34 35 36]+[41] i-s"},
		{level: 3, begin: "i", end: "i", want: "3>4 [33 34 35 36]+[41] i-s"}, // 33, and what 41 lies over, too
		{level: 4, begin: "k", end: "k", want: "4>5 [41]+[] k-l"},
		{level: 4, begin: "a", end: "j"},
		{level: 5, begin: "c", end: "c", want: "5>6 [51 52]+[61] a-z"},
		// from behind on to what is ahead: who lies over both
		{level: 1, begin: "h", end: "f", want: "1>2 [12]+[22 23] c-k"},
		{level: 1, begin: "p", end: "c"},
		{level: 0, begin: "z", end: "a"},
		{level: 0, begin: "d", end: "c", want: "0>1 [29 27]+[11 12] a-h"},
		{level: 3, begin: "p", end: "m", want: "3>4 [33 34 35 36]+[41] i-s"},
		// busy ones
		{level: 0, begin: "a", end: "b", busy: []uint64{29}, why: api.ErrBusy},
		{level: 0, begin: "a", end: "b", busy: []uint64{27}, why: api.ErrBusy},
		{level: 0, begin: "a", end: "b", busy: []uint64{7, 12}, why: api.ErrBusy},
		{level: 0, begin: "a", end: "b", busy: []uint64{28, 26, 13, 14, 21, 0}, want: "0>1 [29 27]+[11 12] a-h"},
		{level: 0, begin: "h", end: "l", busy: []uint64{29, 28, 27, 26}},
		{level: 1, begin: "p", end: "z", busy: []uint64{14, 14}, why: api.ErrBusy},
		{level: 2, begin: "b", end: "b", busy: []uint64{22, 32}, want: "2>3 [21]+[31] a-f"},
		{level: 3, begin: "i", end: "i", busy: []uint64{36}, why: api.ErrBusy}, // which goes with 33
		{level: 3, begin: "s", end: "z", busy: []uint64{35}, why: api.ErrBusy},
		{level: 5, begin: "e", end: "z", busy: []uint64{61}, why: api.ErrBusy},
	} {
		for _, how := range hows() {
			v := turnedVersion(how, wide())
			fine(t, how, v)
			j, is, why := picker.Range(options(how), v, c.level, turned(how, c.begin), turned(how, c.end), c.busy)
			got := ""
			if is {
				got = told(turnedJob(how, j))
			} else if !isZero(j) {
				t.Errorf("level %d, %s to %s: beside none: %s", c.level, c.begin, c.end, told(j))
			}
			if got != c.want || why != c.why {
				t.Errorf("level %d, %s to %s, %v, how %d: %q, %d, want %q, %d", c.level, c.begin, c.end, c.busy, how, got, why, c.want, c.why)
			}
		}
	}
}

// P17.3: whether a level wants it plays no part.
func TestRangeOfAnyScore(t *testing.T) {
	for _, how := range hows() {
		o := api.Options{How: how, Trigger: 1 << 40, Base: 1 << 40, Times: 1 << 20, Table: 1}
		v := turnedVersion(how, wide())
		if _, is, _ := picker.Pick(o, v, nil); is {
			t.Fatal("Pick tells one")
		}
		for level := range 6 {
			if j, is, why := picker.Range(o, v, level, turned(how, "a"), turned(how, "z"), nil); !is || why != api.OK || len(j.From) != len(v.Levels[level]) {
				t.Errorf("level %d: %s, %t, %d", level, told(j), is, why)
			}
		}
	}
}

// P17.3
func TestRangeRefuses(t *testing.T) {
	for _, how := range hows() {
		refused := func(o api.Options, v api.Version, level int, want api.Errno) {
			t.Helper()
			for _, busy := range [][]uint64{nil, {1, 2, 3, 4, 7, 8, 9}} {
				if j, is, why := picker.Range(o, v, level, "", "", busy); !isZero(j) || is || why != want {
					t.Errorf("%+v, level %d: %s, %t, %d, want %d", o, level, told(j), is, why, want)
				}
			}
		}
		for _, o := range wrongOptions() {
			o.How = how
			for level := range 6 {
				refused(o, small(how), level, api.ErrArg)
			}
			for _, v := range wrongVersions(how) { // options come first
				refused(o, v, 1, api.ErrArg)
			}
		}
		for _, level := range wrongLevels() {
			refused(options(how), small(how), level, api.ErrArg)
			for _, v := range wrongVersions(how) { // levels come first
				refused(options(how), v, level, api.ErrArg)
			}
		}
		for want, v := range wrongVersions(how) {
			for level := range 6 {
				refused(options(how), v, level, want)
			}
		}
	}
	for _, how := range wrongHows() {
		o := options(how)
		if j, is, why := picker.Range(o, small(0), 0, "a", "z", nil); !isZero(j) || is || why != api.ErrArg {
			t.Errorf("how %d: %s, %t, %d", how, told(j), is, why)
		}
	}
}
