package manifest

import (
	"maps"
	"slices"

	"sediment/api"
	"sediment/edit"
)

// mostNext is the greatest Next that an edit may say.
const mostNext = 1 << 62

// said is what a manifest says. The versions are shared among those that were cloned of one another: none is ever changed.
type said struct {
	families  map[uint32]api.State
	next, seq uint64
}

// nothing is what is said where there are no families.
func nothing(next uint64) said {
	return said{families: map[uint32]api.State{}, next: next}
}

// clone is the same, for edits that may come to nothing.
func (s said) clone() said {
	s.families = maps.Clone(s.families)
	return s
}

// take makes an edit; or it tells why that can't be made, and changes nothing.
func (s *said) take(e api.Edit) api.Errno {
	x, why := s.check(e)
	if why != api.OK {
		return why
	}
	switch {
	case !hasFamily(e):
	case e.Drop:
		delete(s.families, e.Family)
	default:
		s.families[e.Family] = x
	}
	if e.HasNext {
		s.next = e.Next
	}
	if e.HasSeq {
		s.seq = e.Seq
	}
	return api.OK
}

// check is an edit's family as the edit leaves it, or why that can't be made.
func (s *said) check(e api.Edit) (api.State, api.Errno) {
	if _, why := edit.Encode(e); why != api.OK {
		return api.State{}, why
	}
	x, why := s.left(e)
	switch {
	case why != api.OK:
		return api.State{}, why
	case e.HasNext && (e.Next < s.next || e.Next > mostNext):
		return api.State{}, api.ErrArg
	case e.HasSeq && (e.Seq < s.seq || e.Seq > api.MaxSeq):
		return api.State{}, api.ErrArg
	}
	return x, api.OK
}

// left is the family as an edit leaves it that can be, or why the family does not take it.
func (s *said) left(e api.Edit) (api.State, api.Errno) {
	x, is := s.families[e.Family]
	switch {
	case !hasFamily(e):
		return api.State{}, api.OK
	case e.Make && is:
		return api.State{}, api.ErrThere
	case e.Make:
		x = api.State{Family: e.Family, Name: e.Name, How: e.How}
	case !is:
		return api.State{}, api.ErrNone
	}
	v, why := edit.Apply(x.How, x.Version, e)
	if why != api.OK {
		return api.State{}, why
	}
	x.Version = v
	if e.HasLog {
		x.Log = e.Log
	}
	return x, api.OK
}

// hasFamily tells whether an edit says anything of a family.
func hasFamily(e api.Edit) bool {
	return e.Make || e.Drop || e.HasLog || len(e.Gone) > 0 || len(e.Added) > 0
}

// inOrder is the families, by their numbers.
func (s said) inOrder() []api.State {
	var l []api.State
	for _, family := range slices.Sorted(maps.Keys(s.families)) {
		l = append(l, s.families[family])
	}
	return l
}

// live is the numbers of all tables, rising, each once.
func (s said) live() []uint64 {
	var l []uint64
	for _, x := range s.families {
		l = append(l, edit.Files(x.Version)...)
	}
	slices.Sort(l)
	return slices.Compact(l)
}

// numbers is the edit that says Next and Seq.
func (s said) numbers() api.Edit {
	return api.Edit{HasNext: true, Next: s.next, HasSeq: true, Seq: s.seq}
}

// whole is the edits that make out of nothing all that is said.
func (s said) whole() []api.Edit {
	var l []api.Edit
	for _, x := range s.inOrder() {
		l = append(l, api.Edit{
			Family: x.Family,
			Make:   true, Name: x.Name, How: x.How,
			HasLog: true, Log: x.Log,
			Added: edit.Between(api.Version{}, x.Version).Added,
		})
	}
	return append(l, s.numbers())
}
