package edit

import (
	"slices"

	"sediment/api"
	"sediment/codec"
)

// Check tells whether a version can be.
func Check(how int, v api.Version) api.Errno {
	if !isHow(how) {
		return api.ErrArg
	}
	if count(v) > api.MaxFilesOf {
		return api.ErrLong
	}
	there := map[uint64]struct{}{}
	for level, files := range v.Levels {
		for i, f := range files {
			if why := checkKeys(f); why != api.OK {
				return why
			}
			if _, is := there[f.Number]; is {
				return api.ErrThere
			}
			there[f.Number] = struct{}{}
			if codec.Order(how, f.Smallest, f.Largest) > 0 {
				return api.ErrArg
			}
			if i > 0 && !follows(how, level, files[i-1], f) {
				return api.ErrOverlap
			}
		}
	}
	return api.OK
}

// count is how many files a version has.
func count(v api.Version) int {
	n := 0
	for _, files := range v.Levels {
		n += len(files)
	}
	return n
}

// follows tells whether a file may stand in a level just behind another one.
func follows(how, level int, ahead, f api.File) bool {
	if level == 0 {
		return f.Number < ahead.Number
	}
	// Behind a file that is nothing but an open end, one that begins with that same key would pass by their Users alone.
	if codec.Order(how, ahead.Smallest, f.Smallest) >= 0 {
		return false
	}
	c := codec.Compare(how, ahead.Largest.User, f.Smallest.User)
	return c < 0 || c == 0 && isOpenEnd(ahead.Largest)
}

// isOpenEnd tells whether a Largest is the end of a range, which is not in the file itself.
func isOpenEnd(k api.Key) bool { return k.Kind == api.RangeDelete && k.Seq == api.MaxSeq }

// Apply is a version with an edit made.
func Apply(how int, v api.Version, e api.Edit) (api.Version, api.Errno) {
	if why := Check(how, v); why != api.OK {
		return api.Version{}, why
	}
	if why := checkEdit(e); why != api.OK {
		return api.Version{}, why
	}
	levels := cloned(v.Levels)
	for _, g := range e.Gone {
		i := slices.IndexFunc(levels[g.Level], func(f api.File) bool { return f.Number == g.Number })
		if i < 0 {
			return api.Version{}, api.ErrNone
		}
		levels[g.Level] = slices.Delete(levels[g.Level], i, i+1)
	}
	for _, a := range e.Added {
		i := place(how, a, levels[a.Level])
		levels[a.Level] = slices.Insert(levels[a.Level], i, a.File)
	}
	made := api.Version{Levels: levels}
	if why := Check(how, made); why != api.OK {
		return api.Version{}, why
	}
	return made, api.OK
}

// cloned is the levels in lists of their own.
func cloned(levels [api.Levels][]api.File) [api.Levels][]api.File {
	for i, files := range levels {
		levels[i] = slices.Clone(files)
	}
	return levels
}

// place is where a file is put into the list of its level.
func place(how int, a api.Added, files []api.File) int {
	i := slices.IndexFunc(files, func(f api.File) bool {
		if a.Level == 0 {
			return f.Number < a.File.Number
		}
		return codec.Order(how, f.Smallest, a.File.Smallest) > 0
	})
	if i < 0 {
		return len(files)
	}
	return i
}

// Equal tells whether two versions are the same in all.
func Equal(a, b api.Version) bool {
	for level, files := range a.Levels {
		if !slices.Equal(files, b.Levels[level]) {
			return false
		}
	}
	return true
}

// Between is the edit that makes one version into another.
func Between(a, b api.Version) api.Edit {
	var e api.Edit
	for level := range api.Levels {
		for _, f := range missing(a.Levels[level], b.Levels[level]) {
			e.Gone = append(e.Gone, api.Gone{Level: level, Number: f.Number})
		}
		for _, f := range missing(b.Levels[level], a.Levels[level]) {
			e.Added = append(e.Added, api.Added{Level: level, File: f})
		}
	}
	return e
}

// missing is the files that others are not, just as they are.
func missing(files, others []api.File) []api.File {
	there := make(map[api.File]struct{}, len(others))
	for _, f := range others {
		there[f] = struct{}{}
	}
	var l []api.File
	for _, f := range files {
		if _, is := there[f]; !is {
			l = append(l, f)
		}
	}
	return l
}
