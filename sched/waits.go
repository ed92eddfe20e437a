package sched

import (
	"cmp"
	"slices"

	"sediment/api"
)

func (s *Sched) is(task int) bool { return task >= 0 && task < len(s.tasks) }

// Unlock lets go of a task's lock.
func (s *Sched) Unlock(task, lock int) api.Errno {
	if !s.is(task) {
		return api.ErrTask
	}
	if holder, held := s.holders[lock]; !held || holder != task {
		return api.ErrLock
	}
	delete(s.holders, lock)
	return api.OK
}

// Holder is who holds a lock.
func (s *Sched) Holder(lock int) (int, bool) {
	holder, held := s.holders[lock]
	return holder, held
}

// Signal tells the one that has waited longest for something.
func (s *Sched) Signal(on int) (int, bool) {
	l := s.Waiting(on)
	if len(l) == 0 {
		return 0, false
	}
	s.tell(l[0])
	return l[0], true
}

// Broadcast tells all that wait for something: how many.
func (s *Sched) Broadcast(on int) int {
	l := s.Waiting(on)
	for _, n := range l {
		s.tell(n)
	}
	return len(l)
}

func (s *Sched) tell(n int) { s.tasks[n].wish = api.Wish{} }

// Waiting is who waits for something, the longest first.
func (s *Sched) Waiting(on int) []int {
	l := s.those(func(t *task) bool { return t.wish == api.Wish{Kind: api.Wait, On: on} })
	// No two began to wait behind the same number of steps: there are no ties.
	slices.SortFunc(l, func(a, b int) int { return cmp.Compare(s.tasks[a].since, s.tasks[b].since) })
	return l
}

// Wish is what a task wishes.
func (s *Sched) Wish(task int) (api.Wish, api.Errno) {
	if !s.is(task) {
		return api.Wish{}, api.ErrTask
	}
	return s.tasks[task].wish, api.OK
}

// Name is a task's name.
func (s *Sched) Name(task int) (string, api.Errno) {
	if !s.is(task) {
		return "", api.ErrTask
	}
	return s.tasks[task].name, api.OK
}

// Failed tells whether a task panicked.
func (s *Sched) Failed(task int) bool { return s.is(task) && s.tasks[task].failed }

// Alive is the tasks that are not done.
func (s *Sched) Alive() []int {
	return s.those(func(t *task) bool { return t.wish.Kind != api.Done })
}

// Dead is the tasks that can never go again by themselves.
func (s *Sched) Dead() []int {
	for _, t := range s.tasks {
		if t.wish.Kind == api.Sleep || s.mayGo(t) {
			return nil
		}
	}
	return s.Alive()
}

// Steps is how many steps were done.
func (s *Sched) Steps() int { return s.steps }
