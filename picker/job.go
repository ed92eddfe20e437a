package picker

import (
	"cmp"
	"iter"
	"slices"

	"sediment/api"
	"sediment/codec"
	"sediment/edit"
)

// jobs is the jobs that are made from one file of a level, as these are tried. A file that goes with one that was tried makes the same job, which is told once.
func jobs(how int, v api.Version, level int) iter.Seq[api.Job] {
	return func(yield func(api.Job) bool) {
		tried := map[uint64]struct{}{}
		for _, f := range tries(level, v.Levels[level]) {
			if _, is := tried[f.Number]; is {
				continue
			}
			from := together(how, v, level, []api.File{f})
			for _, g := range from {
				tried[g.Number] = struct{}{}
			}
			if !yield(made(how, v, level, from)) {
				return
			}
		}
	}
}

// tries is a level's files as they are tried: of level 0 those that were made first, of the others the greatest ones.
func tries(level int, files []api.File) []api.File {
	files = slices.Clone(files)
	if level == 0 {
		slices.Reverse(files)
	} else {
		slices.SortStableFunc(files, func(a, b api.File) int { return cmp.Compare(b.Size, a.Size) })
	}
	return files
}

// made is the job that is made from files of a level that are together.
func made(how int, v api.Version, level int, from []api.File) api.Job {
	into := below(how, v, level, from)
	if len(into) > 0 {
		from = wider(how, v, level, from, into)
	}
	begin, end := span(how, from, into)
	return api.Job{Level: level, To: level + 1, From: from, Into: into, Begin: begin, End: end}
}

// wider is the files that can go down with some into the same ones, if these have room for more.
func wider(how int, v api.Version, level int, from, into []api.File) []api.File {
	begin, end := span(how, from, into)
	more := together(how, v, level, overlaps(how, v, level, begin, end))
	if len(more) > len(from) && slices.Equal(below(how, v, level, more), into) {
		return more
	}
	return from
}

// together is some files of a level, and those that must not stay above, or beside, when these go down.
func together(how int, v api.Version, level int, some []api.File) []api.File {
	if level == 0 {
		begin, end := span(how, some)
		return overlaps(how, v, level, begin, end)
	}
	return linked(v.Levels[level], some)
}

// linked is files that stand one behind the other in a level above 0, and those that hang together with them at a user key: an end that is not in its file counts as if it were, so that these lie over one another.
func linked(level, some []api.File) []api.File {
	first := slices.Index(level, some[0])
	behind := first + len(some)
	for first > 0 && meet(level[first-1], level[first]) {
		first--
	}
	for behind < len(level) && meet(level[behind-1], level[behind]) {
		behind++
	}
	return slices.Clone(level[first:behind])
}

// meet tells whether one file ends with the user key that the other one begins with.
func meet(a, b api.File) bool { return a.Largest.User == b.Smallest.User }

// below is the files of the next level over which those of a level lie.
func below(how int, v api.Version, level int, from []api.File) []api.File {
	begin, end := span(how, from)
	return overlaps(how, v, level+1, begin, end)
}

// overlaps is edit's, of a level and a comparator that can be.
func overlaps(how int, v api.Version, level int, begin, end string) []api.File {
	files, _ := edit.Overlaps(how, v, level, begin, end)
	return files
}

// span is the least and the greatest user key of files, of which there is one at least.
func span(how int, lists ...[]api.File) (string, string) {
	order := func(a, b string) int { return codec.Compare(how, a, b) }
	var users []string
	for _, l := range lists {
		for _, f := range l {
			users = append(users, f.Smallest.User, f.Largest.User)
		}
	}
	return slices.MinFunc(users, order), slices.MaxFunc(users, order)
}
