package block_test

import (
	"bytes"
	"fmt"
	"math"
	"slices"
	"testing"

	"sediment/api"
	"sediment/block"
)

// P8.1: bytes that are known.
func TestBuildBytes(t *testing.T) {
	const seq9 = "\x09\x00\x00\x00\x00\x00\x00"
	for _, c := range []struct {
		how, restart int
		l            []api.Entry
		want         string
	}{
		{api.Bytewise, 16, []api.Entry{put("a", 9, "x"), put("ab", 9, "y")},
			"\x00\x09\x01a\x01" + seq9 + "x" + "\x01\x09\x01b\x01" + seq9 + "y" + foot(0)},
		{api.Bytewise, 1, []api.Entry{put("a", 9, "x"), put("ab", 9, "y")},
			"\x00\x09\x01a\x01" + seq9 + "x" + "\x00\x0a\x01ab\x01" + seq9 + "y" + foot(0, 13)},
		{api.Reverse, 16, []api.Entry{put("ab", 9, "y"), put("a", 9, "x")},
			"\x00\x0a\x01ab\x01" + seq9 + "y" + "\x01\x08\x01\x01" + seq9 + "x" + foot(0)},
		{api.Bytewise, 16, nil, foot(0)},
		{api.Reverse, 1024, []api.Entry{}, foot(0)},
		{api.Bytewise, 1, []api.Entry{{}}, "\x00\x08\x00" + "\x00\x00\x00\x00\x00\x00\x00\x00" + foot(0)},
		// Of one user key: the kind's byte is in common, too, then the number's as far as they are the same.
		{api.Bytewise, 4, []api.Entry{put("k", 0x0102, ""), put("k", 0x02, "v"), entry("k", 0x02, api.Delete, "w")},
			"\x00\x09\x00k\x01\x02\x01\x00\x00\x00\x00\x00" + "\x03\x06\x01\x00\x00\x00\x00\x00\x00v" + "\x01\x08\x01\x00\x02\x00\x00\x00\x00\x00\x00w" + foot(0)},
		// A key that is in common whole, with nothing left: the user key of the one ahead goes on as the number and the kind of the one behind.
		{api.Reverse, 4, []api.Entry{put("k\x01"+seq9, 3, ""), put("k", 9, "v")},
			"\x00\x11\x00k\x01" + seq9 + "\x01\x03\x00\x00\x00\x00\x00\x00" + "\x09\x00\x01v" + foot(0)},
		// Each second one is whole.
		{api.Bytewise, 2, []api.Entry{put("a", 9, ""), put("aa", 9, ""), put("aaa", 9, ""), put("aaaa", 9, ""), put("aaaaa", 9, "")},
			"\x00\x09\x00a\x01" + seq9 + "\x01\x09\x00a\x01" + seq9 + "\x00\x0b\x00aaa\x01" + seq9 + "\x03\x09\x00a\x01" + seq9 +
				"\x00\x0d\x00aaaaa\x01" + seq9 + foot(0, 24, 50)},
		// Numbers of two bytes.
		{api.Bytewise, 3, []api.Entry{put(text(200), 9, text(128)), put(text(201), 9, text(300))},
			"\x00\xd0\x01\x80\x01" + text(200) + "\x01" + seq9 + text(128) + "\xc8\x01\x09\xac\x02" + "t\x01" + seq9 + text(300) + foot(0)},
		{api.Bytewise, 1, []api.Entry{entry("r", api.MaxSeq, api.RangeDelete, "s")},
			"\x00\x09\x01r\x02\xff\xff\xff\xff\xff\xff\xffs" + foot(0)},
	} {
		if b := built(t, c.how, c.restart, c.l); string(b) != c.want {
			t.Errorf("Build(%d, %d, %v):\n%x, want\n%x", c.how, c.restart, c.l, b, c.want)
		}
		sized(t, c.restart, c.l, len(c.want), api.OK)
	}
}

// P8.1: a comparator and restarts that are none, ahead of all that is wrong with the entries.
func TestBuildRefusesNumbers(t *testing.T) {
	wrong := []api.Entry{put(text(1025), 1, text(16385))}
	for _, l := range [][]api.Entry{nil, {put("a", 1, "")}, wrong, many(65537)} {
		for _, how := range wrongHows() {
			refuses(t, how, 1, l, api.ErrArg)
			refuses(t, how, 0, l, api.ErrArg)
		}
		for _, restart := range wrongRestarts() {
			for _, how := range hows() {
				refuses(t, how, restart, l, api.ErrArg)
			}
			sized(t, restart, l, 0, api.ErrArg)
		}
	}
}

// P8.1: entries that can't be, each one's errors in the chapter's order.
func TestBuildRefusesEntries(t *testing.T) {
	ok, long := put("m", 5, ""), text(16385)
	for _, how := range hows() {
		for _, c := range []struct {
			l           []api.Entry
			build, size api.Errno
		}{
			{[]api.Entry{put(text(1025), 1, "")}, api.ErrLong, api.ErrLong},
			{[]api.Entry{put("a", 1<<56, "")}, api.ErrArg, api.ErrArg},
			{[]api.Entry{put("a", math.MaxUint64, "")}, api.ErrArg, api.ErrArg},
			{[]api.Entry{entry("a", 1, 3, "")}, api.ErrArg, api.ErrArg},
			{[]api.Entry{entry("a", 1, -1, "")}, api.ErrArg, api.ErrArg},
			{[]api.Entry{entry("a", 1, math.MaxInt, "")}, api.ErrArg, api.ErrArg},
			{[]api.Entry{put("a", 1, long)}, api.ErrLong, api.ErrLong},
			{[]api.Entry{entry("a", 1, api.Delete, long)}, api.ErrLong, api.ErrLong},
			{[]api.Entry{entry("a", 1, 3, long)}, api.ErrArg, api.ErrArg},
			{[]api.Entry{put(text(1025), 1<<56, long)}, api.ErrLong, api.ErrLong},
			// The key, the value, whether it rises: of one entry.
			{[]api.Entry{ok, put("m", 6, long)}, api.ErrLong, api.ErrLong},
			{[]api.Entry{ok, put("m", 1<<56, "")}, api.ErrArg, api.ErrArg},
			// An entry ahead of the next one.
			{[]api.Entry{put("m", 6, long), entry("m", 5, 3, "")}, api.ErrLong, api.ErrLong},
			{[]api.Entry{entry("m", 6, 3, ""), put("m", 5, long)}, api.ErrArg, api.ErrArg},
			{[]api.Entry{ok, put("m", 6, ""), put("m", 4, long)}, api.ErrArg, api.ErrLong},
			{[]api.Entry{ok, put("m", 4, long), put("m", 6, "")}, api.ErrLong, api.ErrLong},
			{[]api.Entry{ok, ok, put(text(1025), 1, "")}, api.ErrArg, api.ErrLong},
		} {
			for _, restart := range restarts() {
				refuses(t, how, restart, c.l, c.build)
				sized(t, restart, c.l, 0, c.size)
			}
		}
	}
}

// P8.1: entries that do not rise strictly; Size counts them all the same.
func TestBuildRefusesWhatDoesNotRise(t *testing.T) {
	for _, l := range [][]api.Entry{
		{put("b", 1, ""), put("a", 1, "")},
		{put("ab", 1, ""), put("a", 1, "")},
		{put("a", 1, "x"), put("a", 1, "y")},
		{put("a", 1, ""), put("a", 2, "")},
		{entry("a", 1, api.Delete, ""), put("a", 1, "")},
		{put("a", 1, ""), put("b", 1, ""), put("b", 1, "")},
		{put("a", 1, ""), put("c", 1, ""), put("b", 9, "")},
		{{}, {}},
	} {
		for _, restart := range restarts() {
			refuses(t, api.Bytewise, restart, l, api.ErrArg)
			sized(t, restart, l, len(modelBytes(restart, l)), api.OK)
		}
	}
	for _, l := range [][]api.Entry{
		{put("a", 1, ""), put("b", 1, "")},
		{put("a", 1, ""), put("ab", 1, "")},
		{put("a", 1, ""), put("a", 2, "")},
		{put("a", 1, ""), put("a", 1, "")},
	} {
		refuses(t, api.Reverse, 3, l, api.ErrArg)
	}
}

// P8.1: as many entries as there may be, and one more.
func TestBuildOfManyEntries(t *testing.T) {
	l := many(65536)
	for _, how := range hows() {
		for _, restart := range []int{1, 16, 1024} {
			b := built(t, how, restart, l)
			if !bytes.Equal(b, modelBytes(restart, l)) {
				t.Errorf("Build(%d, %d) is not as it should be", how, restart)
			}
			sized(t, restart, l, len(b), api.OK)
			x := opened(t, how, b)
			has(t, x, l, 65536/restart)
		}
	}
	more := many(65537)
	wrong := slices.Clone(more)
	wrong[0], wrong[1].Value = entry("", 0, 3, ""), text(16385)
	for _, l := range [][]api.Entry{more, wrong, slices.Repeat([]api.Entry{{}}, 70000)} {
		refuses(t, api.Bytewise, 16, l, api.ErrLong)
		sized(t, 16, l, 0, api.ErrLong)
	}
}

// widest is entries whose block has MaxBytes bytes, with one whole entry: the values are as long as they may be, but the last one.
func widest() []api.Entry {
	var l []api.Entry
	for i := range 255 {
		l = append(l, put(fmt.Sprintf("%03d", i), 1, text(api.MaxValue)))
	}
	l = append(l, put("last", 1, text(128)))
	l[255].Value += text(api.MaxBytes - len(modelBytes(1024, l)))
	return l
}

// P8.1: as many bytes as there may be, and one more; what is wrong with an entry is told ahead of that, and Size knows no such end.
func TestBuildOfManyBytes(t *testing.T) {
	l := widest()
	b := built(t, api.Bytewise, 1024, l)
	if len(b) != api.MaxBytes || !bytes.Equal(b, modelBytes(1024, l)) {
		t.Errorf("%d bytes", len(b))
	}
	sized(t, 1024, l, api.MaxBytes, api.OK)
	if got := opened(t, api.Bytewise, b).Entries(); !slices.Equal(got, l) {
		t.Error("other entries")
	}
	more := slices.Clone(l)
	more[len(l)-1].Value += "t"
	refuses(t, api.Bytewise, 1024, more, api.ErrLong)
	sized(t, 1024, more, api.MaxBytes+1, api.OK)
	// With more whole ones there is more in all.
	refuses(t, api.Bytewise, 1, l, api.ErrLong)
	sized(t, 1, l, len(modelBytes(1, l)), api.OK)
	refuses(t, api.Bytewise, 1024, append(slices.Clone(more), entry("z", 1, 3, "")), api.ErrArg)
	refuses(t, api.Bytewise, 1024, append(slices.Clone(more), put("a", 1, ""), put("a", 1, "")), api.ErrArg)
}

// P8.1: far more bytes than there may be are counted, but not written.
func TestSizeOfFarTooManyBytes(t *testing.T) {
	const n = 65536
	l, value := many(n), text(api.MaxValue)
	for i := range l {
		l[i].Value = value
	}
	refuses(t, api.Bytewise, 1, l, api.ErrLong)
	sized(t, 1, l, n*(1+1+3+8+api.MaxValue+4)+4, api.OK)
}

// P8.1: the longest key and value, and each sort of entry.
func TestBuildTakesTheEdges(t *testing.T) {
	for _, l := range [][]api.Entry{
		{put(text(1024), api.MaxSeq, text(16384)), entry(text(1024), api.MaxSeq, api.Delete, text(16384)), entry(text(1024), 0, api.RangeDelete, "")},
		{entry("", 7, api.RangeDelete, "x"), put("", 7, "x"), entry("", 7, api.Delete, "x")},
	} {
		for _, how := range hows() {
			for _, restart := range restarts() {
				b := built(t, how, restart, l)
				if !bytes.Equal(b, modelBytes(restart, l)) {
					t.Errorf("Build(%d, %d) is not as it should be", how, restart)
				}
				sized(t, restart, l, len(b), api.OK)
			}
		}
	}
}

// What is handed in is not changed, and what is answered is new.
func TestBuildKeepsNothing(t *testing.T) {
	l := append(make([]api.Entry, 0, 9), put("a", 9, "x"), put("ab", 9, "y"))
	was := slices.Clone(l[:cap(l)])
	b := built(t, api.Bytewise, 2, l)
	block.Size(2, l)
	if !slices.Equal(l[:cap(l)], was) {
		t.Error("the entries were changed")
	}
	want := slices.Clone(b)
	clear(b[:cap(b)])
	if again := built(t, api.Bytewise, 2, l); !bytes.Equal(again, want) {
		t.Errorf("%x, want %x", again, want)
	}
}
