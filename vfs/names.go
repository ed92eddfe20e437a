package vfs

import (
	"maps"
	"slices"
	"strings"

	"sediment/api"
)

// A name has at most maxName bytes, from firstByte to lastByte.
const (
	maxName   = 32
	firstByte = 33
	lastByte  = 126
)

// folder is a directory: its names as they are now, and its open changes.
type folder struct {
	names map[string]*file
	open  [][]slot // of each open change the names that it set, one behind the other
}

// slot is a name that was set, and the file that had it until then (nil: none).
type slot struct {
	name string
	was  *file
}

// clone is the same directory, with twins of its files.
func (d *folder) clone(twin func(*file) *file) *folder {
	g := &folder{names: map[string]*file{}}
	for name, x := range d.names {
		g.names[name] = twin(x)
	}
	for _, change := range d.open {
		slots := slices.Clone(change)
		for i, s := range slots {
			slots[i].was = twin(s.was)
		}
		g.open = append(g.open, slots)
	}
	return g
}

// settle lets all open changes stand fast.
func (d *folder) settle() {
	clear(d.open)
	d.open = d.open[:0]
}

// Mkdir makes a directory.
func (f *FS) Mkdir(dir string) api.Errno {
	switch {
	case !isName(dir):
		return api.ErrArg
	case f.dirs[dir] != nil:
		return api.ErrThere
	case len(f.dirs) >= api.MaxDirs:
		return api.ErrLong
	}
	return f.change(func() {
		if f.dirs == nil {
			f.dirs = map[string]*folder{}
		}
		f.dirs[dir] = &folder{names: map[string]*file{}}
	})
}

// Rmdir takes an empty directory away.
func (f *FS) Rmdir(dir string) api.Errno {
	d, e := f.folder(dir)
	if e != api.OK {
		return e
	}
	if len(d.names) > 0 {
		return api.ErrState
	}
	return f.change(func() { delete(f.dirs, dir) })
}

// Dirs is all directories.
func (f *FS) Dirs() []string { return slices.Sorted(maps.Keys(f.dirs)) }

// List is the names in a directory.
func (f *FS) List(dir string) ([]string, api.Errno) {
	d, e := f.folder(dir)
	if e != api.OK {
		return nil, e
	}
	return slices.Sorted(maps.Keys(d.names)), api.OK
}

// Create makes a file.
func (f *FS) Create(path string) api.Errno {
	d, name, e := f.look(path)
	switch {
	case e != api.OK:
		return e
	case d.names[name] != nil:
		return api.ErrThere
	case len(d.names) >= api.MaxFiles:
		return api.ErrLong
	}
	return f.change(func() {
		f.made++
		d.add(f.set(d, name, &file{number: f.made}))
	})
}

// Rename gives a file another path.
func (f *FS) Rename(from, to string) api.Errno {
	d, old, g, name, e := f.both(from, to)
	switch {
	case e != api.OK:
		return e
	case d != g && g.crowded(name):
		return api.ErrLong
	}
	x := d.names[old]
	return f.change(func() {
		switch {
		case from == to:
		case d == g:
			d.add(f.set(d, old, nil), f.set(d, name, x))
		default:
			g.add(f.set(g, name, x))
			d.add(f.set(d, old, nil))
		}
	})
}

// Link gives a file a further path.
func (f *FS) Link(from, to string) api.Errno {
	d, old, g, name, e := f.both(from, to)
	switch {
	case e != api.OK:
		return e
	case g.names[name] != nil:
		return api.ErrThere
	case g.crowded(name):
		return api.ErrLong
	}
	return f.change(func() { g.add(f.set(g, name, d.names[old])) })
}

// Remove takes a path away.
func (f *FS) Remove(path string) api.Errno {
	d, name, e := f.look(path)
	switch {
	case e != api.OK:
		return e
	case d.names[name] == nil:
		return api.ErrNone
	}
	return f.change(func() { d.add(f.set(d, name, nil)) })
}

// Same tells whether two paths are there, and one file's.
func (f *FS) Same(a, b string) bool {
	x, e := f.find(a)
	if e != api.OK {
		return false
	}
	y, e := f.find(b)
	return e == api.OK && x == y
}

// SyncDir lets a directory's names stand fast.
func (f *FS) SyncDir(dir string) api.Errno {
	d, e := f.folder(dir)
	if e != api.OK {
		return e
	}
	return f.change(d.settle)
}

// Open is how many open changes a directory has.
func (f *FS) Open(dir string) (int, api.Errno) {
	d, e := f.folder(dir)
	if e != api.OK {
		return 0, e
	}
	return len(d.open), api.OK
}

// isName tells whether it is a name.
func isName(s string) bool {
	for i := range len(s) {
		if s[i] < firstByte || s[i] > lastByte || s[i] == '/' {
			return false
		}
	}
	return len(s) >= 1 && len(s) <= maxName
}

// folder is a directory by its name.
func (f *FS) folder(dir string) (*folder, api.Errno) {
	switch {
	case !isName(dir):
		return nil, api.ErrArg
	case f.dirs[dir] == nil:
		return nil, api.ErrNone
	}
	return f.dirs[dir], api.OK
}

// look looks at a path: its directory, and its name there.
func (f *FS) look(path string) (*folder, string, api.Errno) {
	dir, name, _ := strings.Cut(path, "/")
	if !isName(name) {
		return nil, "", api.ErrArg
	}
	d, e := f.folder(dir)
	if e != api.OK {
		return nil, "", e
	}
	return d, name, api.OK
}

// both looks at two paths; the first one must be there.
func (f *FS) both(from, to string) (d *folder, old string, g *folder, name string, e api.Errno) {
	if d, old, e = f.look(from); e != api.OK {
		return nil, "", nil, "", e
	}
	if g, name, e = f.look(to); e != api.OK {
		return nil, "", nil, "", e
	}
	if d.names[old] == nil {
		return nil, "", nil, "", api.ErrNone
	}
	return d, old, g, name, api.OK
}

// find looks for a file.
func (f *FS) find(path string) (*file, api.Errno) {
	d, name, e := f.look(path)
	switch {
	case e != api.OK:
		return nil, e
	case d.names[name] == nil:
		return nil, api.ErrNone
	}
	return d.names[name], api.OK
}

// crowded tells whether a directory has no room for that name.
func (d *folder) crowded(name string) bool {
	return d.names[name] == nil && len(d.names) >= api.MaxFiles
}

// add lets names that were set be one open change.
func (d *folder) add(slots ...slot) { d.open = append(d.open, slots) }

// set gives a name in a directory to a file, or to none (nil); what it tells takes that back.
func (f *FS) set(d *folder, name string, x *file) slot {
	was := d.names[name]
	delete(d.names, name)
	if was != nil {
		was.paths--
		if was.paths == 0 {
			f.used -= len(was.bytes)
		}
	}
	if x != nil {
		if x.paths == 0 {
			f.used += len(x.bytes)
		}
		x.paths++
		d.names[name] = x
	}
	return slot{name, was}
}

// leave lets a directory's first n open changes stand fast, and takes back all others.
func (f *FS) leave(d *folder, n int) {
	for _, change := range slices.Backward(d.open[n:]) {
		for _, s := range slices.Backward(change) {
			f.set(d, s.name, s.was)
		}
	}
	d.settle()
}
