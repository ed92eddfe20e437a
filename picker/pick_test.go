package picker_test

import (
	"fmt"
	"slices"
	"testing"

	"sediment/api"
	"sediment/picker"
)

// only are options by which nothing is wanted but of one level.
func only(level, how int) api.Options {
	o := api.Options{How: how, Trigger: 1 << 40, Base: 1 << 40, Times: 1, Table: 1}
	if level == 0 {
		o.Trigger = 1
	} else {
		o.Base = 1
	}
	return o
}

// row is files of a size that lie one behind the other, with the numbers from first on.
func row(first, size uint64, ends ...string) []api.File {
	var l []api.File
	for i, e := range ends {
		l = append(l, file(first+uint64(i), size, e[:1], e[1:]))
	}
	return l
}

// cases are versions, levels, the numbers of files that are busy, and the job that Pick tells ("": none).
var cases = []struct {
	name  string
	o     api.Options
	v     api.Version
	busy  []uint64
	want  string
	level int
}{
	{name: "four files that lie over one another, and what lies below", o: api.Options{Trigger: 4, Base: 1000, Times: 10, Table: 1},
		v: version([]api.File{file(9, 5, "a", "c"), file(8, 5, "g", "m"), file(7, 5, "b", "d"), file(6, 5, "d", "h")},
			row(1, 5, "ab", "ee", "lp", "qr")), want: "0>1 [9 8 7 6]+[1 2 3] a-p"},
	{name: "three files of four", o: api.Options{Trigger: 4, Base: 1000, Times: 10, Table: 1},
		v: version([]api.File{file(9, 5, "a", "c"), file(8, 5, "a", "c"), file(7, 5, "a", "c")}, row(1, 999, "ab"))},
	{name: "nothing at all", o: options(0)},
	{name: "just enough bytes", o: options(0), v: version(nil, row(1, 50, "ab", "cd")), want: "1>2 [1]+[] a-b"},
	{name: "just too few", o: options(0), v: version(nil, append(row(1, 50, "ab"), row(2, 49, "cd")...))},
	{name: "of level 0 the file that was made first", o: only(0, 0),
		v: version([]api.File{file(9, 900, "a", "b"), file(8, 900, "c", "d"), file(7, 1, "e", "f")}), want: "0>1 [7]+[] e-f"},
	{name: "one that is busy", o: only(0, 0), busy: []uint64{7},
		v: version([]api.File{file(9, 900, "a", "b"), file(8, 1, "c", "d"), file(7, 1, "e", "f")}), want: "0>1 [8]+[] c-d"},
	{name: "one over which a busy one lies", o: only(0, 0), busy: []uint64{9},
		v: version([]api.File{file(9, 1, "d", "e"), file(8, 1, "a", "b"), file(7, 1, "e", "f")}), want: "0>1 [8]+[] a-b"},
	{name: "one that lies over a busy one below", o: only(0, 0), busy: []uint64{3},
		v: version([]api.File{file(9, 1, "a", "b"), file(8, 1, "e", "f")}, row(1, 1, "ab", "cd", "fg")), want: "0>1 [9]+[1] a-b"},
	{name: "all busy", o: only(0, 0), busy: []uint64{3, 9},
		v: version([]api.File{file(9, 1, "a", "b"), file(8, 1, "e", "f")}, row(1, 1, "ab", "cd", "fg"))},
	{name: "none of these", o: only(0, 0), busy: []uint64{0, 2, 4, 7, 10, most, 1 << 63},
		v: version([]api.File{file(9, 1, "a", "b"), file(8, 1, "e", "f")}, row(1, 1, "ab", "cd", "fg")), want: "0>1 [8]+[3] e-g"},
	{name: "the greatest one", o: only(1, 0), v: version(nil, []api.File{file(1, 5, "a", "b"), file(2, 7, "c", "d"), file(3, 6, "e", "f")}), want: "1>2 [2]+[] c-d"},
	{name: "of as many bytes the first one", o: only(1, 0), v: version(nil, row(1, 7, "ab", "cd", "ef")), want: "1>2 [1]+[] a-b"},
	{name: "of as many the next one", o: only(1, 0), busy: []uint64{1}, v: version(nil, row(1, 7, "ab", "cd", "ef")), want: "1>2 [2]+[] c-d"},
	{name: "sizes that are far apart", o: only(1, 0), busy: []uint64{3}, v: version(nil, []api.File{file(1, 1<<31, "a", "b"), file(2, 1<<63, "c", "d"), file(3, most, "e", "f")}), want: "1>2 [2]+[] c-d"},
	{name: "what is below", o: only(1, 0), v: version(nil, row(5, 7, "ce"), row(1, 1, "ab", "cd", "ef", "gh")), want: "1>2 [5]+[2 3] c-f"},
	{name: "at one key below", o: only(1, 0), v: version(nil, row(5, 7, "ce"), row(1, 1, "ac", "dd", "eh", "ij")), want: "1>2 [5]+[1 2 3] a-h"},
	{name: "an end that is not in a file below", o: only(1, 0), v: version(nil, row(5, 7, "ce"), []api.File{upTo(1, 1, "a", "c"), file(2, 1, "f", "g")}), want: "1>2 [5]+[1] a-e"},
	{name: "more that goes with it", o: only(1, 0), v: version(nil, append(row(5, 7, "cd"), row(6, 1, "ef", "hi", "kl")...), row(1, 1, "ai", "kl")), want: "1>2 [5 6 7]+[1] a-i"},
	{name: "more on both sides", o: only(1, 0), v: version(nil, append(append(row(5, 1, "ab"), row(6, 9, "de")...), row(7, 1, "fg")...), row(1, 1, "bf")), want: "1>2 [5 6 7]+[1] a-g"},
	{name: "more, with which more below would go", o: only(1, 0), v: version(nil, append(row(5, 7, "cd"), row(6, 1, "ef", "hk", "lm")...), row(1, 1, "ai", "kl")), want: "1>2 [5]+[1] a-i"},
	{name: "more on one side would go, but not on the other", o: only(1, 0), v: version(nil, append(append(row(5, 1, "ab"), row(6, 9, "de")...), row(7, 1, "fk")...), row(1, 1, "bg", "kl")), want: "1>2 [6]+[1] b-g"},
	{name: "with nothing below no more is looked for", o: only(1, 0), v: version(nil, append(row(5, 7, "cd"), row(6, 1, "ef")...), row(1, 1, "gh")), want: "1>2 [5]+[] c-d"},
	{name: "more that goes on behind what is below", o: only(1, 0), v: version(nil, append(row(5, 9, "cd"), row(6, 1, "eg", "hi")...), row(1, 1, "ae")), want: "1>2 [5 6]+[1] a-g"},
	{name: "a busy one among what goes with it", o: only(1, 0), busy: []uint64{7}, v: version(nil, append(row(5, 7, "cd"), row(6, 1, "ef", "hi", "kl")...), row(1, 1, "ai", "kl")), want: "1>2 [8]+[2] k-l"},
	{name: "more of level 0", o: only(0, 0), v: version([]api.File{file(9, 1, "e", "f"), file(8, 1, "f", "g"), file(7, 1, "a", "b")}, row(1, 1, "af", "hi")), want: "0>1 [9 8 7]+[1] a-g"},
	{name: "more of level 0, with which more below would go", o: only(0, 0), v: version([]api.File{file(9, 1, "e", "f"), file(8, 1, "f", "h"), file(7, 1, "a", "b")}, row(1, 1, "af", "hi")), want: "0>1 [7]+[1] a-f"},
	{name: "files with the same key at their ends", o: only(1, 0), v: version(nil, []api.File{upTo(1, 1, "a", "c"), upTo(2, 1, "c", "e"), file(3, 9, "e", "g"), file(4, 1, "h", "i")}), want: "1>2 [1 2 3]+[] a-g"},
	{name: "with the same key behind it", o: only(1, 0), v: version(nil, []api.File{upTo(1, 9, "a", "c"), upTo(2, 1, "c", "e"), file(3, 1, "e", "g"), upTo(4, 1, "h", "i")}), want: "1>2 [1 2 3]+[] a-g"},
	{name: "with the same key on both sides", o: only(1, 0), v: version(nil, []api.File{upTo(1, 1, "a", "c"), upTo(2, 9, "c", "e"), file(3, 1, "e", "g"), upTo(4, 1, "h", "i")}, row(7, 1, "gg")), want: "1>2 [1 2 3]+[7] a-g"},
	{name: "three files at one key", o: only(1, 0), v: version(nil, []api.File{upTo(1, 1, "a", "c"), nothing(2, 1, "c"), file(3, 9, "c", "g"), upTo(4, 1, "h", "i")}), want: "1>2 [1 2 3]+[] a-g"},
	{name: "with the same key, and one is busy", o: only(1, 0), busy: []uint64{1}, v: version(nil, []api.File{upTo(1, 1, "a", "c"), upTo(2, 1, "c", "e"), file(3, 9, "e", "g"), file(4, 1, "h", "i")}), want: "1>2 [4]+[] h-i"},
	{name: "more that has the same key as another one", o: only(1, 0), v: version(nil, []api.File{upTo(1, 1, "a", "c"), file(2, 1, "c", "d"), file(3, 9, "f", "g"), file(4, 1, "h", "i")}, row(7, 1, "dg")), want: "1>2 [1 2 3]+[7] a-g"},
	{name: "more that has the same key as one with which more below would go", o: only(1, 0), v: version(nil, []api.File{upTo(1, 1, "a", "c"), file(2, 1, "c", "d"), file(3, 9, "f", "g"), file(4, 1, "h", "i")}, row(6, 1, "aa", "dg")), want: "1>2 [3]+[7] d-g"},
	{name: "the level that wants it most", o: options(0), v: version(
		[]api.File{file(9, 1, "a", "b"), file(8, 1, "c", "d"), file(7, 1, "e", "f")}, row(1, 200, "ab")), want: "1>2 [1]+[] a-b"},
	{name: "of as much the lower one", o: options(0), v: version(
		[]api.File{file(9, 1, "a", "b"), file(8, 1, "c", "d"), file(7, 1, "e", "f")}, row(1, 150, "ab")), want: "0>1 [7]+[] e-f"},
	{name: "the next one, where all is busy", o: options(0), busy: []uint64{1}, v: version(
		[]api.File{file(9, 1, "a", "b"), file(8, 1, "c", "d"), file(7, 1, "e", "f")}, row(1, 200, "ab")), want: "0>1 [7]+[] e-f"},
	{name: "but none that does not want it", o: options(0), busy: []uint64{1}, v: version(
		[]api.File{file(9, 1, "a", "b")}, row(1, 200, "ab"), row(2, 999, "ab"))},
	{name: "all that wants it is busy", o: options(0), busy: []uint64{1, 2}, v: version(
		[]api.File{file(9, 1, "a", "b")}, row(1, 200, "ab"), row(2, 1999, "ab"))},
	{name: "what is busy in the level above plays no part", o: options(0), busy: []uint64{9, 1}, v: version(
		[]api.File{file(9, 1, "a", "b")}, row(1, 50, "ab"), row(2, 1999, "ab")), want: "2>3 [2]+[] a-b"},
	{name: "from level 5 to level 6", o: only(5, 0), v: at(5, row(1, 1, "ab", "cd"), row(3, 1, "bc")), want: "5>6 [1 2]+[3] a-d"},
	{name: "level 6 goes nowhere", o: only(5, 0), v: at(5, nil, row(3, most, "bc", "de"))},
}

// P17.2
func TestPickKnown(t *testing.T) {
	for _, c := range cases {
		for _, how := range hows() {
			o, v := c.o, turnedVersion(how, c.v)
			o.How = how
			fine(t, how, v)
			j, is, why := picker.Pick(o, v, c.busy)
			got := ""
			if is {
				got = told(turnedJob(how, j))
			} else if !isZero(j) {
				t.Errorf("%s: beside none: %s", c.name, told(j))
			}
			if got != c.want || why != api.OK {
				t.Errorf("%s, how %d: %q, %d, want %q", c.name, how, got, why, c.want)
			}
			if is && (!slices.Equal(j.From, find(v, j.Level, numbersOf(j.From))) || !slices.Equal(j.Into, find(v, j.To, numbersOf(j.Into)))) {
				t.Errorf("%s, how %d: files that are others than the version's", c.name, how)
			}
		}
	}
}

// turnedJob is a job whose ends are turned back.
func turnedJob(how int, j api.Job) api.Job {
	j.Begin, j.End = turned(how, j.Begin), turned(how, j.End)
	return j
}

// P17.2: in whatever order numbers are busy, and however often.
func TestPickOfAnyBusy(t *testing.T) {
	for _, how := range hows() {
		for _, busy := range [][]uint64{{4}, {4, 4}, {most, 4, 0}, {4, 11, 12}, {12, 11, 4}, {4, 0, 4, 0}} {
			j, is, why := picker.Pick(options(how), small(how), busy)
			if !is || why != api.OK || j.Level != 1 || !slices.Equal(numbersOf(j.From), []uint64{3}) {
				t.Errorf("how %d, %v: %s, %t, %d", how, busy, told(j), is, why)
			}
		}
	}
}

// P17.2: files whose numbers are at the ends of what numbers there are.
func TestPickOfAnyNumbers(t *testing.T) {
	v := version([]api.File{file(most, 1, "a", "b"), file(0, 1, "e", "f")})
	for _, c := range []struct {
		busy []uint64
		want []uint64
	}{{nil, []uint64{0}}, {[]uint64{0}, []uint64{most}}, {[]uint64{most}, []uint64{0}}, {[]uint64{most, 0}, nil}, {[]uint64{1, most - 1}, []uint64{0}}} {
		j, is, why := picker.Pick(only(0, 0), v, c.busy)
		if !slices.Equal(numbersOf(j.From), c.want) || is != (c.want != nil) || why != api.OK {
			t.Errorf("%v: %s, %t, %d", c.busy, told(j), is, why)
		}
	}
}

// P17.2: keys are held against each other by the comparator, not by their lengths, nor letter by letter.
func TestPickOfAnyKeys(t *testing.T) {
	v := version([]api.File{file(9, 1, "", "a"), file(8, 1, "a\x00", "a\x00"), file(7, 1, "\x80", "\xff\xff")},
		[]api.File{file(1, 1, "a", "a"), file(2, 1, "a\x00\x00", "\x7f"), file(3, 1, "\xff", "\xff\xff\xff")})
	for _, c := range []struct {
		busy []uint64
		want string
	}{
		{nil, "0>1 [7]+[3] \x80-\xff\xff\xff"},
		{[]uint64{3}, "0>1 [8]+[] a\x00-a\x00"},
		{[]uint64{3, 8}, "0>1 [9]+[1] -a"},
	} {
		if j, is, why := picker.Pick(only(0, 0), v, c.busy); told(j) != c.want || !is || why != api.OK {
			t.Errorf("%v: %q, %t, %d, want %q", c.busy, told(j), is, why, c.want)
		}
	}
}

// P17.2
func TestPickRefuses(t *testing.T) {
	for _, how := range hows() {
		for _, o := range wrongOptions() {
			o.How = how
			for _, v := range wrongVersions(how) { // options come first
				if j, is, why := picker.Pick(o, v, nil); !isZero(j) || is || why != api.ErrArg {
					t.Errorf("%+v: %s, %t, %d", o, told(j), is, why)
				}
			}
			if j, is, why := picker.Pick(o, small(how), nil); !isZero(j) || is || why != api.ErrArg {
				t.Errorf("%+v: %s, %t, %d", o, told(j), is, why)
			}
		}
		for want, v := range wrongVersions(how) {
			if j, is, why := picker.Pick(options(how), v, []uint64{1}); !isZero(j) || is || why != want {
				t.Errorf("how %d: %s, %t, %d, want %d", how, told(j), is, why, want)
			}
		}
	}
	for _, how := range wrongHows() {
		if j, is, why := picker.Pick(options(how), small(0), nil); !isZero(j) || is || why != api.ErrArg {
			t.Errorf("how %d: %s, %t, %d", how, told(j), is, why)
		}
	}
}

// P17.2: a version as great as can be, of which all files but the last one that is tried are busy.
func TestPickOfManyFiles(t *testing.T) {
	name := func(i int) string { return fmt.Sprintf("%06d", i) }
	chain := func(n int) []api.File { // each file lies over the next one
		var l []api.File
		for i := range n {
			l = append(l, file(uint64(5000-i), 1, name(i), name(i+1)))
		}
		return l
	}
	apart := func(n, first int) []api.File {
		var l []api.File
		for i := range n {
			l = append(l, file(uint64(first+i), 1, name(2*i), name(2*i)))
		}
		return l
	}
	numbers := func(from, to uint64) []uint64 {
		var l []uint64
		for n := from; n <= to; n++ {
			l = append(l, n)
		}
		return l
	}
	fallen := func(l []api.File) []api.File {
		l = slices.Clone(l)
		slices.Reverse(l)
		return l
	}
	for _, c := range []struct {
		name string
		o    api.Options
		v    api.Version
		busy []uint64
		want []uint64
	}{
		{"a chain that is busy", only(0, 0), version(chain(api.MaxFilesOf)), []uint64{5000}, nil},
		{"a chain", only(0, 0), version(chain(api.MaxFilesOf)), nil, fallenNumbers(5000, api.MaxFilesOf)},
		{"apart in level 0", only(0, 0), version(fallen(apart(api.MaxFilesOf, 1))), numbers(1, 1023), []uint64{1024}},
		{"apart in level 0, over a busy one", only(0, 0), version(fallen(apart(api.MaxFilesOf-1, 2)), []api.File{file(1, 1, "0", "1")}), []uint64{1}, nil},
		{"apart in level 1", only(1, 0), version(nil, apart(api.MaxFilesOf, 1)), numbers(1, 1023), []uint64{1024}},
		{"apart in level 1, over busy ones", only(1, 0), version(nil, apart(512, 1), apart(512, 3000)), numbers(3000, 3510), []uint64{512}},
		{"nearly all busy, each many times", only(1, 0), version(nil, apart(512, 1), apart(512, 3000)), slices.Repeat(numbers(3000, 3510), 200), []uint64{512}},
	} {
		fine(t, 0, c.v)
		j, is, why := picker.Pick(c.o, c.v, c.busy)
		if !slices.Equal(numbersOf(j.From), c.want) || is != (c.want != nil) || why != api.OK {
			t.Errorf("%s: %s, %t, %d", c.name, short(told(j)), is, why)
		}
	}
}

// fallenNumbers is n numbers, each one below the one ahead, from first on.
func fallenNumbers(first uint64, n int) []uint64 {
	var l []uint64
	for i := range n {
		l = append(l, first-uint64(i))
	}
	return l
}

// P17.2: of as many bytes in their order, however many there are.
func TestPickInTurn(t *testing.T) {
	r := chance(3)
	for _, how := range hows() {
		var l []api.File
		for i := range 300 {
			u := fmt.Sprintf("%06d", i)
			if how == api.Reverse {
				u = fmt.Sprintf("%06d", 300-i)
			}
			l = append(l, file(uint64(r.IntN(1<<30))<<10+uint64(i), uint64(r.IntN(4)), u, u))
		}
		v := version(nil, nil, l)
		o := api.Options{How: how, Trigger: 1, Base: 1, Times: 1, Table: 1}
		fine(t, how, v)
		var busy []uint64
		for _, f := range tried(v, 2) {
			j, is, why := picker.Pick(o, v, busy)
			if !is || why != api.OK || j.Level != 2 || !slices.Equal(j.From, []api.File{f}) {
				t.Fatalf("how %d, behind %d: %s, %t, %d, want %d", how, len(busy), told(j), is, why, f.Number)
			}
			busy = append(busy, f.Number)
		}
		if j, is, why := picker.Pick(o, v, busy); is || why != api.OK {
			t.Errorf("how %d: %s, %d", how, told(j), why)
		}
	}
}
