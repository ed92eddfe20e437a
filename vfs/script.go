package vfs

import (
	"math"

	"sediment/api"
)

// span is which changes a script speaks of: the first one, counted from 1 on, and how many; and how many there were since it was told so.
type span struct{ first, many, seen int }

// next counts a change: whether the script speaks of it, and whether it is the first one of these.
func (s *span) next() (in, first bool) {
	s.seen++
	in = s.first >= 1 && s.seen >= s.first && s.seen-s.first < s.many
	return in, in && s.seen == s.first
}

// Fail lets some further changes err.
func (f *FS) Fail(n, many int) { f.fail = span{first: n, many: many} }

// Stop lets all further changes err from one on, until it crashes.
func (f *FS) Stop(n int) { f.stop = span{first: n, many: math.MaxInt} }

// change does a change, unless the script says otherwise.
func (f *FS) change(do func()) api.Errno {
	return f.halved(do, func() {})
}

// halved is a change of which half is done, if it is the first one of which the script says that it errs.
func (f *FS) halved(do, half func()) api.Errno {
	failed, fails := f.fail.next()
	stopped, stops := f.stop.next()
	switch {
	case stopped && stops, !stopped && fails:
		half()
	case !stopped && !failed:
		do()
	}
	switch {
	case stopped:
		return api.ErrStop
	case failed:
		return api.ErrIO
	}
	return api.OK
}

// Flip turns a bit about.
func (f *FS) Flip(path string, bit int) api.Errno {
	x, e := f.find(path)
	switch {
	case e != api.OK:
		return e
	case x.open > 0:
		return api.ErrState
	case bit < 0 || bit/8 >= len(x.bytes):
		return api.ErrArg
	}
	x.bytes[bit/8] ^= 1 << (bit % 8)
	return api.OK
}

// Crash leaves what stands fast, and of the rest what the script says.
func (f *FS) Crash(keeps, names []int) {
	f.fail, f.stop = span{}, span{}
	next := turns(names)
	for _, dir := range f.Dirs() {
		if d := f.dirs[dir]; len(d.open) > 0 {
			f.leave(d, next()%(len(d.open)+1))
		}
	}
	next = turns(keeps)
	for _, x := range f.paths() {
		if x.open > 0 {
			f.hold(x, next()%(x.open+1))
		}
	}
}

// turns tells the numbers of a list, one behind the other, and from the first one on again.
func turns(l []int) func() int {
	i := 0
	return func() int {
		if len(l) == 0 {
			return 0
		}
		n := l[i%len(l)]
		i++
		return max(n, 0)
	}
}
