package vfs

import (
	"slices"

	"sediment/api"
)

// file is a file: its bytes as they are now, its open writes, and how many bytes these have; how many paths it has now.
type file struct {
	number int
	bytes  []byte
	writes []write
	open   int
	paths  int
}

// write is an open write: where, how many bytes, and those that it was written over (fewer, if the file became longer by it). These are never changed, so that clones share them.
type write struct {
	at, many int
	was      []byte
}

// clone is the same file for another disk.
func (x *file) clone() *file {
	y := *x
	y.bytes = slices.Clone(x.bytes)
	y.writes = slices.Clone(x.writes)
	return &y
}

// settle lets all bytes stand fast.
func (x *file) settle() {
	clear(x.writes)
	x.writes, x.open = x.writes[:0], 0
}

// Write puts bytes into a file from a place on.
func (f *FS) Write(path string, at int, b []byte) api.Errno {
	x, e := f.find(path)
	if e != api.OK {
		return e
	}
	return f.write(x, at, b)
}

// Append puts bytes behind a file's end.
func (f *FS) Append(path string, b []byte) api.Errno {
	x, e := f.find(path)
	if e != api.OK {
		return e
	}
	return f.write(x, len(x.bytes), b)
}

// Cut shortens a file.
func (f *FS) Cut(path string, n int) api.Errno {
	x, e := f.find(path)
	switch {
	case e != api.OK:
		return e
	case n < 0 || n > len(x.bytes):
		return api.ErrArg
	}
	return f.change(func() {
		f.shorten(x, n)
		x.settle()
	})
}

// Read is a file's bytes.
func (f *FS) Read(path string) ([]byte, api.Errno) {
	x, e := f.find(path)
	if e != api.OK {
		return nil, e
	}
	return slices.Clone(x.bytes), api.OK
}

// ReadAt is some of a file's bytes.
func (f *FS) ReadAt(path string, at, n int) ([]byte, api.Errno) {
	x, e := f.find(path)
	switch {
	case e != api.OK:
		return nil, e
	case n < 0 || at < 0 || at > len(x.bytes):
		return nil, api.ErrArg
	}
	return slices.Clone(x.bytes[at:][:min(n, len(x.bytes)-at)]), api.OK
}

// Size is how many bytes a file has.
func (f *FS) Size(path string) (int, api.Errno) {
	x, e := f.find(path)
	if e != api.OK {
		return 0, e
	}
	return len(x.bytes), api.OK
}

// Sync lets a file's bytes stand fast.
func (f *FS) Sync(path string) api.Errno {
	x, e := f.find(path)
	if e != api.OK {
		return e
	}
	return f.change(x.settle)
}

// Unsynced is how many bytes of a file do not stand fast.
func (f *FS) Unsynced(path string) (int, api.Errno) {
	x, e := f.find(path)
	if e != api.OK {
		return 0, e
	}
	return x.open, api.OK
}

// write is a Write to a file that is there.
func (f *FS) write(x *file, at int, b []byte) api.Errno {
	if at < 0 || at > len(x.bytes) {
		return api.ErrArg
	}
	more := at + len(b) - len(x.bytes)
	if more > 0 && f.used+more > f.quota {
		return api.ErrDisk
	}
	return f.halved(
		func() { f.put(x, at, b) },
		func() { f.put(x, at, b[:len(b)/2]) })
}

// put writes bytes into a file that has a path, as one open write.
func (f *FS) put(x *file, at int, b []byte) {
	if len(b) == 0 {
		return
	}
	over := min(len(b), len(x.bytes)-at)
	x.writes = append(x.writes, write{at, len(b), slices.Clone(x.bytes[at:][:over])})
	x.open += len(b)
	copy(x.bytes[at:], b[:over])
	x.bytes = append(x.bytes, b[over:]...)
	f.used += len(b) - over
}

// shorten leaves the first n bytes of a file that has a path.
func (f *FS) shorten(x *file, n int) {
	f.used -= len(x.bytes) - n
	x.bytes = x.bytes[:n]
}

// hold lets the first n bytes of a file's open writes stand fast, and takes back all others.
func (f *FS) hold(x *file, n int) {
	ahead := x.open
	for _, w := range slices.Backward(x.writes) {
		if ahead <= n {
			break
		}
		ahead -= w.many
		f.unwrite(x, w, max(n-ahead, 0))
	}
	x.settle()
}

// unwrite takes back all but the first n bytes, and at least one, of the last write of a file that has a path.
func (f *FS) unwrite(x *file, w write, n int) {
	if w.many > len(w.was) {
		f.shorten(x, w.at+max(n, len(w.was)))
	}
	if n < len(w.was) {
		copy(x.bytes[w.at+n:], w.was[n:])
	}
}
