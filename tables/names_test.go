package tables_test

import (
	"math"
	"strings"
	"testing"

	"sediment/api"
	"sediment/tables"
	"sediment/vfs"
)

// P12.1
func TestName(t *testing.T) {
	for number, want := range map[uint64]string{
		0: "000000.sst", 7: "000007.sst", 10: "000010.sst", 99999: "099999.sst", 100000: "100000.sst", 999999: "999999.sst",
		1000000: "1000000.sst", 12345678: "12345678.sst", 1 << 63: "9223372036854775808.sst", math.MaxUint64: "18446744073709551615.sst",
	} {
		if s := tables.Name(number); s != want {
			t.Errorf("Name(%d): %s, want %s", number, s, want)
		}
		if n, is := tables.Number(want); n != number || !is {
			t.Errorf("Number(%q): %d, %t", want, n, is)
		}
	}
}

// P12.1: a Name stands for its number.
func TestNameAndBack(t *testing.T) {
	r := chance(1)
	for range 20000 {
		number := r.Uint64() >> r.IntN(64)
		if n, is := tables.Number(tables.Name(number)); n != number || !is {
			t.Errorf("Number(Name(%d)): %d, %t", number, n, is)
		}
	}
}

// P12.1: what is no Name.
func TestNoName(t *testing.T) {
	for _, name := range []string{
		"", ".", ".sst", "sst", "7.sst", "00007.sst", "0000007.sst", "0100000.sst", "00000.sst", "0000000.sst", "01000000.sst",
		"000007", "000007.", "000007.ss", "000007sst", "000007.SST", "000007.sst ", " 000007.sst", "000007.sst\x00", "000007.sst.sst", "000007.log",
		"+00007.sst", "+000007.sst", "-00007.sst", "-000007.sst", "0x0007.sst", "0b0001.sst", "0o0007.sst", "1_000_000.sst", "1e0006.sst", "00000a.sst", "00000A.sst", "000 07.sst", "000007/.sst",
		"18446744073709551616.sst", "99999999999999999999.sst", "018446744073709551615.sst", "184467440737095516150.sst",
		"\u0660\u0660\u0660\u0660\u0660\u0661.sst", "00000\xff.sst", "MANIFEST", "d/000007.sst",
		strings.Repeat("0", 100000) + "7.sst", strings.Repeat("9", 100000) + ".sst", strings.Repeat(".sst", 1000),
	} {
		if n, is := tables.Number(name); n != 0 || is {
			t.Errorf("Number(%.40q): %d, %t", name, n, is)
		}
	}
}

// P12.1
func TestNew(t *testing.T) {
	f := disk(t, 1000)
	for _, how := range hows() {
		for _, room := range []int{1, 2, math.MaxInt} {
			x := fresh(t, f, how, room)
			kept(t, x, 0)
			lists(t, x)
		}
	}
	fine(t, f.Create(path(5)))
	was := look(f)
	x := fresh(t, f, api.Bytewise, 1)
	kept(t, x, 0)
	lists(t, x, 5)
	same(t, f, was)
}

// P12.1: arguments that can't be, which are told ahead of the directory's errors.
func TestNewRefuses(t *testing.T) {
	f := disk(t, 1000)
	was := look(f)
	refuses := func(f *vfs.FS, dir string, how, room int, want api.Errno) {
		t.Helper()
		if x, e := tables.New(f, dir, how, room); x != nil || e != want {
			t.Errorf("New(nil %t, %q, %d, %d): nil %t, %d, want %d", f == nil, dir, how, room, x == nil, e, want)
		}
	}
	for _, d := range []string{dir, "none", "", "a/b"} {
		refuses(nil, d, api.Bytewise, 1, api.ErrArg)
		for _, how := range []int{-1, 2, math.MinInt, math.MaxInt} {
			refuses(f, d, how, 1, api.ErrArg)
		}
		for _, room := range []int{0, -1, math.MinInt} {
			refuses(f, d, api.Reverse, room, api.ErrArg)
		}
	}
	for _, d := range []string{"", "/", "d/", "d/e", " ", "\x7f", strings.Repeat("d", 33)} {
		refuses(f, d, api.Bytewise, 1, api.ErrArg)
	}
	for _, d := range []string{"none", "D", "dd", strings.Repeat("d", 32)} {
		refuses(f, d, api.Bytewise, 1, api.ErrNone)
	}
	same(t, f, was)
}
