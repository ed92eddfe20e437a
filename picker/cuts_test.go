package picker_test

import (
	"fmt"
	"math"
	"slices"
	"testing"

	"sediment/api"
	"sediment/picker"
)

// P17.5
func TestMovesKnown(t *testing.T) {
	for _, c := range []struct {
		name       string
		level      int
		from, into []uint64
		want       bool
	}{
		{"one with nothing below", 1, numbers(14), nil, true},
		{"one with something below", 1, numbers(11), numbers(21, 22), false},
		{"one with something below that is not under it", 1, numbers(14), numbers(25), false},
		{"one with nothing said of what is below", 1, numbers(11), nil, false},
		{"two with nothing below", 3, numbers(31, 32), nil, false},
		{"one of two that have the same key", 3, numbers(31), nil, false},
		{"none", 3, nil, nil, false},
		{"one of level 4", 4, numbers(41), nil, true},
		{"one of level 5", 5, numbers(51), numbers(61), false},
		{"one of level 0 with something below", 0, numbers(28), numbers(14), false},
	} {
		for _, how := range hows() {
			v := turnedVersion(how, wide())
			if got := picker.Moves(options(how), v, jobOf(how, v, c.level, c.from, c.into)); got != c.want {
				t.Errorf("%s, how %d: %t", c.name, how, got)
			}
		}
	}
}

// P17.5: of level 0, too, and not what Check refuses.
func TestMovesOfWhatPasses(t *testing.T) {
	for _, how := range hows() {
		o := options(how)
		v := turnedVersion(how, version([]api.File{file(9, 1, "a", "b"), file(8, 1, "a", "b"), file(7, 1, "x", "z")}))
		for number, want := range map[uint64]bool{9: false, 8: true, 7: true} { // 8 is older than 9, and lies over it
			if got := picker.Moves(o, v, jobOf(how, v, 0, numbers(number), nil)); got != want {
				t.Errorf("how %d, %d: %t", how, number, got)
			}
		}
		j := jobOf(how, v, 0, numbers(7), nil)
		for _, wrong := range wrongOptions() {
			wrong.How = how
			if picker.Moves(wrong, v, j) {
				t.Errorf("%+v: moves", wrong)
			}
		}
		for _, w := range wrongHows() {
			if picker.Moves(options(w), v, j) {
				t.Errorf("how %d: moves", w)
			}
		}
		for _, w := range wrongVersions(how) {
			if picker.Moves(o, w, j) {
				t.Errorf("%s: moves", short(w))
			}
		}
		j.End = ""
		if picker.Moves(o, v, j) || picker.Moves(o, v, api.Job{}) {
			t.Errorf("how %d: moves", how)
		}
	}
}

// P17.5
func TestCutsKnown(t *testing.T) {
	v := version(
		[]api.File{file(39, 1, "b", "y"), file(38, 1, "a", "h"), file(37, 1, "h", "i"), file(36, 1, "k", "k")},
		row(11, 1, "ac", "ee", "fg", "hj", "lz"),
		row(21, 1, "bb", "cd", "ef", "gh", "mo", "yz"))
	for _, c := range []struct {
		name       string
		level      int
		from, into []uint64
		most       int
		want       []string
	}{
		{"one part", 1, numbers(11, 12, 13, 14, 15), numbers(21, 22, 23, 24, 25, 26), 1, nil},
		{"two", 1, numbers(11, 12, 13, 14, 15), numbers(21, 22, 23, 24, 25, 26), 2, []string{"g"}},
		{"three", 1, numbers(11, 12, 13, 14, 15), numbers(21, 22, 23, 24, 25, 26), 3, []string{"e", "m"}},
		{"four", 1, numbers(11, 12, 13, 14, 15), numbers(21, 22, 23, 24, 25, 26), 4, []string{"c", "g", "m"}},
		{"five", 1, numbers(11, 12, 13, 14, 15), numbers(21, 22, 23, 24, 25, 26), 5, []string{"c", "e", "g", "m"}},
		{"six", 1, numbers(11, 12, 13, 14, 15), numbers(21, 22, 23, 24, 25, 26), 6, []string{"c", "e", "g", "m", "y"}},
		{"as many as there are", 1, numbers(11, 12, 13, 14, 15), numbers(21, 22, 23, 24, 25, 26), 7, []string{"b", "c", "e", "g", "m", "y"}},
		{"more", 1, numbers(11, 12, 13, 14, 15), numbers(21, 22, 23, 24, 25, 26), 8, []string{"b", "c", "e", "g", "m", "y"}},
		{"any number", 1, numbers(11, 12, 13, 14, 15), numbers(21, 22, 23, 24, 25, 26), math.MaxInt, []string{"b", "c", "e", "g", "m", "y"}},
		{"what begins with the job", 1, numbers(12), numbers(22, 23), 9, []string{"e"}}, // c is where the job begins
		{"those of a level above 0 that go down", 1, numbers(11, 12), numbers(21, 22, 23), 9, []string{"b", "c", "e"}},
		{"nothing below", 2, numbers(23, 24), nil, 9, nil},
		{"one below", 1, numbers(15), numbers(25, 26), 9, []string{"m", "y"}},
		{"those of level 0, each once", 0, numbers(39, 38, 37, 36), numbers(11, 12, 13, 14, 15), 9, []string{"b", "e", "f", "h", "k", "l"}},
		{"four parts of level 0", 0, numbers(39, 38, 37, 36), numbers(11, 12, 13, 14, 15), 4, []string{"e", "h", "k"}},
		{"of level 0 one that is over one key", 0, numbers(36), nil, 3, nil},
		{"of level 0 older ones", 0, numbers(37, 36), numbers(14), 3, []string{"k"}},
	} {
		for _, how := range hows() {
			v := turnedVersion(how, v)
			fine(t, how, v)
			j := jobOf(how, v, c.level, c.from, c.into)
			got, why := picker.Cuts(options(how), v, j, c.most)
			for i := range got {
				got[i] = turned(how, got[i])
			}
			if !slices.Equal(got, c.want) || why != api.OK {
				t.Errorf("%s, how %d: %q, %d, want %q", c.name, how, got, why, c.want)
			}
		}
	}
}

// P17.5: however many parts, of many keys: the places are in between, as the words reckon them.
func TestCutsOfManyFiles(t *testing.T) {
	const n = 1000
	var below []api.File
	var users []string
	for i := range n {
		u := fmt.Sprintf("%04d", i)
		below = append(below, file(uint64(i+1), 1, u, u))
		users = append(users, u)
	}
	v := at(1, []api.File{file(2000, 1, "", "z")}, below)
	j := jobOf(0, v, 1, numbers(2000), numbersOf(below))
	for _, most := range []int{1, 2, 3, 7, 16, 300, 999, 1000, 1001, 1002, 2000, math.MaxInt} {
		want := users
		if n > most-1 {
			want = nil
			for i := 1; i <= most-1; i++ {
				want = append(want, users[i*n/most])
			}
		}
		if got, why := picker.Cuts(options(0), v, j, most); !slices.Equal(got, want) || why != api.OK {
			t.Errorf("%d: %d cuts, %d, want %d", most, len(got), why, len(want))
		}
	}
}

// P17.5
func TestCutsRefuse(t *testing.T) {
	fewer := []int{0, -1, math.MinInt}
	for _, how := range hows() {
		o, v := options(how), small(how)
		fit, is, _ := picker.Range(o, v, 0, turned(how, "a"), turned(how, "a"), nil)
		if !is {
			t.Fatal("there is none")
		}
		refused := func(o api.Options, v api.Version, j api.Job, most int, want api.Errno) {
			t.Helper()
			if l, why := picker.Cuts(o, v, j, most); len(l) != 0 || why != want {
				t.Errorf("how %d, %d: %q, %d, want %d", how, most, l, why, want)
			}
		}
		for _, most := range fewer {
			refused(o, v, fit, most, api.ErrArg)
		}
		cut := fit
		cut.From = cut.From[:1]
		cut.Begin, cut.End = ends(how, append(slices.Clone(cut.From), cut.Into...))
		for _, most := range append(fewer, 1, 2, math.MaxInt) { // Check's error comes first
			refused(o, v, cut, most, api.ErrOverlap)
			refused(o, v, api.Job{}, most, api.ErrArg)
			for want, w := range wrongVersions(how) {
				refused(o, w, fit, most, want)
			}
			for _, w := range wrongOptions() {
				w.How = how
				refused(w, v, fit, most, api.ErrArg)
			}
			for _, w := range wrongHows() {
				refused(options(w), v, fit, most, api.ErrArg)
			}
		}
	}
}
