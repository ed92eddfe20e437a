package manifest_test

import (
	"bytes"
	"encoding/binary"
	"fmt"
	"hash/crc32"
	"strings"
	"testing"

	"sediment/api"
	"sediment/manifest"
	"sediment/vfs"
)

// fragment is a record in a log's block, written elsewhere than in the program.
func fragment(record string) string {
	sum := crc32.Checksum([]byte("\x01"+record), crc32.MakeTable(crc32.Castagnoli))
	b := binary.LittleEndian.AppendUint32(nil, (sum>>15|sum<<17)+0xa282ead8)
	return string(binary.LittleEndian.AppendUint16(b, uint16(len(record)))) + "\x01" + record
}

// P14.2, P14.4, example 1
func TestCreate(t *testing.T) {
	f := disk(t, 1000)
	m := created(t, f)
	lists(t, f, "CURRENT", "MANIFEST-000001")
	if b := read(t, f, now); string(b) != "MANIFEST-000001\n" {
		t.Errorf("CURRENT is %q", b)
	}
	// One edit of 6 bytes: the Family 0, Next 2, Seq 0.
	want := fragment("\x01\x06\x01\x00\x05\x02\x06\x00")
	if b := read(t, f, path(1)); string(b) != want {
		t.Errorf("the file is %x, want %x", b, want)
	}
	if m.File() != 1 || m.Next() != 2 || m.Seq() != 0 || m.Size() != 15 || m.Broken() || len(m.Families()) != 0 || len(m.Live()) != 0 {
		t.Error(tells(m))
	}
	n, _ := f.Open(dir)
	for _, x := range f.Image() {
		n += x.Open
	}
	if n != 0 {
		t.Error("not all of it stands fast")
	}
}

// P14.2: what can't be, told ahead of what is there; the disk stays.
func TestCreateRefuses(t *testing.T) {
	f := disk(t, 1000)
	refuses := func(f *vfs.FS, dir string, want api.Errno) {
		t.Helper()
		if m, e := manifest.Create(f, dir); m != nil || e != want {
			t.Errorf("Create(nil %t, %q): nil %t, %d, want %d", f == nil, dir, m == nil, e, want)
		}
	}
	was := look(f)
	for _, d := range []string{dir, "none", ""} {
		refuses(nil, d, api.ErrArg)
	}
	for _, d := range []string{"", "/", "d/", "d/e", " ", "\x7f", strings.Repeat("d", 33)} {
		refuses(f, d, api.ErrArg)
	}
	for _, d := range []string{"none", "D", "dd", strings.Repeat("d", 32)} {
		refuses(f, d, api.ErrNone)
	}
	same(t, f, was)
	for _, b := range []string{"", "MANIFEST-000001\n", "anything"} {
		puts(t, f, now, []byte(b))
		was := look(f)
		refuses(f, dir, api.ErrThere)
		same(t, f, was)
	}
}

// P14.2: a directory in which one was created has one; another directory of the disk has none.
func TestCreateTwice(t *testing.T) {
	f := disk(t, 1000)
	m := created(t, f)
	still(t, f, m, func() {
		if m, e := manifest.Create(f, dir); m != nil || e != api.ErrThere {
			t.Error(e)
		}
	})
	fine(t, f.Mkdir("e"))
	o, e := manifest.Create(f, "e")
	if o == nil || e != api.OK {
		t.Fatal(e)
	}
	fine(t, o.Log(list(makes(1, "x", 0))))
	if len(m.Families()) != 0 || len(o.Families()) != 1 {
		t.Error("one knows of the other")
	}
}

// littered is a directory with files that are nobody's.
func littered(t *testing.T, f *vfs.FS, numbers ...uint64) {
	t.Helper()
	for _, n := range numbers {
		puts(t, f, path(n), []byte("rubbish"))
	}
	puts(t, f, next, []byte("rubbish that is longer than a name and a line feed"))
	puts(t, f, dir+"/000003.sst", []byte("table"))
}

// P14.2: a file of the first one's name, and a CURRENT.new, give way; what else lies there stays.
func TestCreateOverLitter(t *testing.T) {
	f := disk(t, 1000)
	littered(t, f, 0, 1, 2)
	created(t, f)
	lists(t, f, "CURRENT", "MANIFEST-000000", "MANIFEST-000001", "MANIFEST-000002", "000003.sst")
	if string(read(t, f, path(1))) != fragment("\x01\x06\x01\x00\x05\x02\x06\x00") || string(read(t, f, now)) != "MANIFEST-000001\n" || string(read(t, f, path(0))) != "rubbish" {
		t.Error(look(f))
	}
	opened(t, f)
	lists(t, f, "CURRENT", "MANIFEST-000000", "MANIFEST-000002", "000003.sst")
}

// errs are ways in which the disk errs from the n-th change on, each with what it tells.
func errs(n int) map[api.Errno]func(f *vfs.FS) {
	return map[api.Errno]func(f *vfs.FS){
		api.ErrIO:   func(f *vfs.FS) { f.Fail(n, 1) },
		api.ErrStop: func(f *vfs.FS) { f.Stop(n) },
	}
}

// P14.2, 14.3: whichever call errs, that is told, and nothing more is done.
func TestCreateErrs(t *testing.T) {
	for _, litter := range []bool{false, true} {
		last := 8
		if litter {
			last = 10
		}
		for n := 1; n <= last+1; n++ {
			for want, err := range errs(n) {
				f := disk(t, 1000)
				if litter {
					littered(t, f, 1)
				}
				g := f.Clone()
				err(f)
				err(g)
				m, e := manifest.Create(f, dir)
				_, e2 := modelCreate(g)
				if n > last {
					want = api.OK
				}
				if e != want || e2 != want || (m != nil) != (n > last) {
					t.Errorf("litter %t, call %d: nil %t, %d, %d, want %d", litter, n, m == nil, e, e2, want)
				}
				same(t, f, look(g))
			}
		}
	}
}

// P14.2: a disk and a directory without room.
func TestCreateNoRoom(t *testing.T) {
	for quota := range 32 {
		f := disk(t, quota)
		want := api.ErrDisk
		if quota == 31 { // 15 bytes of the file, 16 of CURRENT
			want = api.OK
		}
		if m, e := manifest.Create(f, dir); e != want || (m != nil) != (e == api.OK) {
			t.Errorf("%d bytes: nil %t, %d", quota, m == nil, e)
		}
	}
	for room, want := range []api.Errno{api.ErrLong, api.ErrLong, api.OK} {
		f := disk(t, 1000)
		for i := range api.MaxFiles - room {
			fine(t, f.Create(fmt.Sprint(dir, "/", i)))
		}
		if m, e := manifest.Create(f, dir); e != want || (m != nil) != (e == api.OK) {
			t.Errorf("room for %d names: nil %t, %d", room, m == nil, e)
		}
	}
}

// 14.3: each file is written in one call, so that the half of it that a disk writes which errs is the half of all its bytes.
func TestOneCall(t *testing.T) {
	f := disk(t, 1000)
	f.Fail(2, 1)
	if _, e := manifest.Create(f, dir); e != api.ErrIO {
		t.Error(e)
	}
	whole := []byte(fragment("\x01\x06\x01\x00\x05\x02\x06\x00"))
	if b := read(t, f, path(1)); !bytes.Equal(b, whole[:7]) {
		t.Errorf("%x", b)
	}
	f = disk(t, 1000)
	f.Fail(5, 1)
	if _, e := manifest.Create(f, dir); e != api.ErrIO {
		t.Error(e)
	}
	if b := read(t, f, next); string(b) != "MANIFEST" {
		t.Errorf("%q", b)
	}
	m := created(t, disk(t, 1000))
	fine(t, m.Log(list(makes(1, "x", 0))))
	f = disk(t, 1000)
	m = created(t, f)
	f.Fail(1, 1)
	refused(t, api.ErrIO, m.Log(list(makes(1, "x", 0))))
	record := fragment(string(recordOf(makes(1, "x", 0), both(2, 0))))
	if b := read(t, f, path(1)); string(b[15:]) != record[:len(record)/2] {
		t.Errorf("%x", b)
	}
}
