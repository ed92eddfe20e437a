package picker

import (
	"slices"

	"sediment/api"
	"sediment/codec"
	"sediment/edit"
)

// Check tells whether a job can be done.
func Check(o api.Options, v api.Version, j api.Job) api.Errno {
	if !canBe(o) {
		return api.ErrArg
	}
	if why := edit.Check(o.How, v); why != api.OK {
		return why
	}
	switch {
	case !goesDown(j.Level), j.To != j.Level+1, len(j.From) == 0:
		return api.ErrArg
	case !isPart(j.From, v.Levels[j.Level]), !isPart(j.Into, v.Levels[j.To]):
		return api.ErrArg
	}
	if begin, end := span(o.How, j.From, j.Into); begin != j.Begin || end != j.End {
		return api.ErrArg
	}
	if slices.ContainsFunc(below(o.How, v, j.Level, j.From), notOf(j.Into)) {
		return api.ErrOverlap
	}
	stays, hangs := notOf(j.From), hangsOn(o.How, j.Level, j.From)
	if slices.ContainsFunc(v.Levels[j.Level], func(f api.File) bool { return stays(f) && hangs(f) }) {
		return api.ErrOverlap
	}
	return api.OK
}

// isPart tells whether some files are a level's, as they stand there, in its order, each once.
func isPart(some, level []api.File) bool {
	for _, f := range some {
		i := slices.Index(level, f)
		if i < 0 {
			return false
		}
		level = level[i+1:]
	}
	return true
}

// notOf tells which files are none of some.
func notOf(some []api.File) func(api.File) bool {
	return func(f api.File) bool { return !slices.Contains(some, f) }
}

// hangsOn tells which of a level's files can't stay where they are, if some others go down.
func hangsOn(how, level int, from []api.File) func(api.File) bool {
	if level == 0 {
		return func(f api.File) bool {
			return slices.ContainsFunc(from, newer(f)) && slices.ContainsFunc(from, over(how, f))
		}
	}
	return func(f api.File) bool {
		return slices.ContainsFunc(from, func(g api.File) bool { return meet(f, g) || meet(g, f) })
	}
}

// newer tells which files are newer than one.
func newer(f api.File) func(api.File) bool {
	return func(g api.File) bool { return g.Number > f.Number }
}

// over tells which files lie over one.
func over(how int, f api.File) func(api.File) bool {
	return func(g api.File) bool {
		return codec.Compare(how, f.Largest.User, g.Smallest.User) >= 0 && codec.Compare(how, f.Smallest.User, g.Largest.User) <= 0
	}
}

// Moves tells whether a job's table can be moved as it is.
func Moves(o api.Options, v api.Version, j api.Job) bool {
	return Check(o, v, j) == api.OK && len(j.Into) == 0 && len(j.From) == 1
}

// Cuts is the user keys at which a job is cut into parts, so that there are at most so many.
func Cuts(o api.Options, v api.Version, j api.Job, most int) ([]string, api.Errno) {
	if why := Check(o, v, j); why != api.OK {
		return nil, why
	}
	if most < 1 {
		return nil, api.ErrArg
	}
	users := begins(o.How, j)
	if len(users) < most {
		return users, api.OK
	}
	var cuts []string
	for i := 1; i < most; i++ {
		cuts = append(cuts, users[i*len(users)/most])
	}
	return cuts, api.OK
}

// begins is where a job's files begin, behind its own beginning, rising. Of a level above 0 those that go down play no part: they are not where the new ones will be put.
func begins(how int, j api.Job) []string {
	files := slices.Clone(j.Into)
	if j.Level == 0 {
		files = append(files, j.From...)
	}
	var users []string
	for _, f := range files {
		if codec.Compare(how, f.Smallest.User, j.Begin) > 0 {
			users = append(users, f.Smallest.User)
		}
	}
	slices.SortFunc(users, func(a, b string) int { return codec.Compare(how, a, b) })
	return slices.Compact(users)
}
