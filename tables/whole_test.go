package tables_test

import (
	"fmt"
	"math/rand/v2"
	"testing"

	"sediment/api"
	"sediment/tables"
	"sediment/vfs"
)

// written is a table that was written: its number, and what it tells.
type written struct {
	number uint64
	told   string
}

// full is entries and tombstones of a table that is not empty, its options and its bytes.
func full(t *testing.T, r *rand.Rand, how int) (api.TableOptions, []api.Entry, []api.Tombstone, []byte) {
	t.Helper()
	o := api.TableOptions{How: how, Block: 1 + r.IntN(100), Restart: 1 + r.IntN(4), Part: 1 + r.IntN(4), Bits: r.IntN(12)}
	l, tombs := some(r, how)
	if len(l) == 0 {
		l = []api.Entry{put("x", 5, fmt.Sprint(r.IntN(1000)))}
	}
	return o, l, tombs, built(t, o, l, tombs)
}

// litter does something with other files, which does not stand fast.
func litter(r *rand.Rand, f *vfs.FS) {
	p := fmt.Sprintf("%s/%d.log", []string{dir, "e"}[r.IntN(2)], r.IntN(3))
	switch r.IntN(4) {
	case 0, 1:
		f.Create(p)
	case 2:
		f.Append(p, []byte("some bytes"))
	case 3:
		f.Remove(p)
	}
}

// tells wants tables as they were written.
func tells(t *testing.T, what string, x *tables.Tables, how int, all []written) {
	t.Helper()
	for _, w := range all {
		y, _, e := x.Get(w.number)
		if e != api.OK || told(how, y) != w.told {
			t.Errorf("%s: Get(%d): %s, %d, want %s", what, w.number, told(how, y), e, w.told)
		}
	}
}

// P12.4: behind any crash, for who asked ahead of it and who asks anew, and behind a second one, too.
func TestStandsFast(t *testing.T) {
	for seed := range uint64(300) {
		r := chance(seed)
		how := r.IntN(2)
		f := disk(t, 1<<20)
		fine(t, f.Mkdir("e"))
		x := fresh(t, f, how, 1+r.IntN(3))
		var all []written
		for n := range uint64(6) {
			litter(r, f)
			if r.IntN(3) == 0 {
				f.Fail(1+r.IntN(4), r.IntN(3))
			}
			o, l, tombs, b := full(t, r, how)
			var e api.Errno
			if r.IntN(2) == 0 {
				_, e = x.Write(n, o, l, tombs)
			} else {
				_, e = x.Add(n, b)
			}
			if e == api.OK {
				all = append(all, written{n, told(how, opened(t, how, b))})
			}
			f.Fail(0, 0)
			litter(r, f)
		}
		for range 2 {
			f.Crash(numbers(r), numbers(r))
			tells(t, fmt.Sprint("seed ", seed), x, how, all)
			tells(t, fmt.Sprint("seed ", seed, ", anew"), fresh(t, f, how, 1), how, all)
		}
	}
}

// P12.5: wherever the disk stops or errs within a Write, and however much of it a crash leaves: the table, or an error; what stood fast ahead stays.
func TestWholeOrNot(t *testing.T) {
	for _, how := range hows() {
		r := chance(uint64(how))
		o, l, tombs, b := full(t, r, how)
		_, _, _, first := full(t, r, how)
		want, ahead := told(how, opened(t, how, b)), told(how, opened(t, how, first))
		for n := 1; n <= 5; n++ {
			for _, many := range []int{0, 1, 2, 9} {
				f := disk(t, 1<<20)
				x := fresh(t, f, how, 3)
				if _, e := x.Add(1, first); e != api.OK {
					t.Fatal(e)
				}
				f.Fail(n, many)
				if many == 0 {
					f.Stop(n)
				}
				_, e := x.Write(2, o, l, tombs)
				if (e == api.OK) != (n == 5) {
					t.Errorf("%d, %d: %d", n, many, e)
				}
				for names := range 4 {
					for keep := range len(b) + 1 {
						g := f.Clone()
						g.Crash([]int{keep}, []int{names})
						y := fresh(t, g, how, 3)
						tells(t, "ahead", y, how, []written{{1, ahead}})
						z, pin, e := y.Get(2)
						switch {
						case e == api.OK && told(how, z) == want:
						case e != api.OK && z == nil && pin == 0 && n < 5:
						default:
							t.Fatalf("%d, %d, %d names, %d bytes: %s, %d, want %s", n, many, names, keep, told(how, z), e, want)
						}
					}
				}
			}
		}
	}
}

// P12.5: with each number of bytes that are kept there is an error, unless all of them are: no first part of a table is another one.
func TestNoPartIsATable(t *testing.T) {
	for seed := range uint64(40) {
		r := chance(seed)
		how := r.IntN(2)
		_, _, _, b := full(t, r, how)
		f := disk(t, 1<<20)
		fine(t, f.Create(path(1)), f.Append(path(1), b), f.SyncDir(dir))
		for keep := range len(b) {
			g := f.Clone()
			g.Crash([]int{keep}, nil)
			lacks(t, fresh(t, g, how, 1), 1, api.ErrCorrupt)
		}
		f.Crash([]int{len(b)}, nil)
		tells(t, "all of it", fresh(t, f, how, 1), how, []written{{1, told(how, opened(t, how, b))}})
	}
}

// P12.6: tables of one disk each, and of several rooms, tell the same, whatever is done, as long as no file is changed but by them.
func TestAsIfReadAnew(t *testing.T) {
	for seed := range uint64(150) {
		var want string
		for _, room := range []int{1, 2, 3, 1000} {
			r := chance(seed)
			how := r.IntN(2)
			f := disk(t, 1<<20)
			x := fresh(t, f, how, room)
			pins, did := []int{0}, ""
			for range 60 {
				number := uint64(r.IntN(6))
				switch r.IntN(8) {
				case 0, 1:
					o, l, tombs, _ := full(t, r, how)
					y, e := x.Write(number, o, l, tombs)
					did += fmt.Sprintln("write", number, y, e)
				case 2:
					did += fmt.Sprintln("remove", number, x.Remove(number))
				case 3, 4:
					did += fmt.Sprintln("free", x.Free(pins[r.IntN(len(pins))]))
				default:
					y, pin, e := x.Get(number)
					did += fmt.Sprintln("get", number, told(how, y), pin, e)
					pins = append(pins, pin)
				}
			}
			if room == 1 {
				want = did
			} else if did != want {
				t.Fatalf("seed %d: with room %d\n%s\nwith room 1\n%s", seed, room, did, want)
			}
		}
	}
}
