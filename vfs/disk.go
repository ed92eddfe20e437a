// Package vfs is layer 2: a disk that crashes, errs and rots as a script says: see DOC.md and doc/02-vfs.md.
//
// Of directories and files there is only what is there now; what is open remembers what was there ahead of it, so that a crash can take it back.
package vfs

import (
	"iter"
	"maps"
	"slices"

	"sediment/api"
)

// FS is a disk.
type FS struct {
	quota, used int
	made        int // how many files were ever made: their numbers
	dirs        map[string]*folder
	fail, stop  span
}

// New: an empty one for so many bytes.
func New(quota int) (*FS, api.Errno) {
	if quota < 0 || quota > api.MaxDisk {
		return nil, api.ErrArg
	}
	return &FS{quota: quota}, api.OK
}

// Used is how many bytes all files have that have paths.
func (f *FS) Used() int { return f.used }

// Image is all files.
func (f *FS) Image() []api.Node {
	var out []api.Node
	first := map[int]int{}
	for path, x := range f.paths() {
		if _, ok := first[x.number]; !ok {
			first[x.number] = len(out)
		}
		out = append(out, api.Node{Path: path, B: slices.Clone(x.bytes), Open: x.open})
		out[len(out)-1].First = out[first[x.number]].Path
	}
	return out
}

// Clone is another disk that is the same.
func (f *FS) Clone() *FS {
	g := *f
	g.dirs = map[string]*folder{}
	copied := map[int]*file{}
	twin := func(x *file) *file {
		if x == nil {
			return nil
		}
		if copied[x.number] == nil {
			copied[x.number] = x.clone()
		}
		return copied[x.number]
	}
	for dir, d := range f.dirs {
		g.dirs[dir] = d.clone(twin)
	}
	return &g
}

// paths are all paths, by the directories and in one by the names, and their files.
func (f *FS) paths() iter.Seq2[string, *file] {
	return func(yield func(string, *file) bool) {
		for _, dir := range f.Dirs() {
			names := f.dirs[dir].names
			for _, name := range slices.Sorted(maps.Keys(names)) {
				if !yield(dir+"/"+name, names[name]) {
					return
				}
			}
		}
	}
}
