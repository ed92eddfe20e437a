package sched_test

import (
	"testing"

	"sediment/api"
)

// P4.2
func TestUnlock(t *testing.T) {
	s := of(t, plan(wish(api.Lock, 1), wish(api.Lock, 2), goOn, goOn), plan(wish(api.Lock, 3), goOn, goOn))
	runs(t, s, []int{0, 0, 0, 1, 1}, 5, 5, api.OK)
	for _, task := range []int{-1, 2, 64, most, least} {
		answers(t, "Unlock by nobody", s.Unlock(task, 1), api.ErrTask)
		answers(t, "Unlock by nobody of a lock that is none", s.Unlock(task, 5), api.ErrTask)
	}
	answers(t, "Unlock of a lock that is free", s.Unlock(0, 0), api.ErrLock)
	answers(t, "Unlock of another one's", s.Unlock(0, 3), api.ErrLock)
	answers(t, "Unlock of another one's", s.Unlock(1, 1), api.ErrLock)
	holds(t, s, 1, 0, true)
	holds(t, s, 2, 0, true)
	holds(t, s, 3, 1, true)
	answers(t, "Unlock", s.Unlock(0, 1), api.OK)
	holds(t, s, 1, 0, false)
	holds(t, s, 2, 0, true)
	holds(t, s, 3, 1, true)
	answers(t, "Unlock once more", s.Unlock(0, 1), api.ErrLock)
	answers(t, "Unlock", s.Unlock(1, 3), api.OK)
	holds(t, s, 3, 0, false)
	wishes(t, s, 0, goOn)
	counts(t, s, 5)
}

// P4.2: the one that has waited longest is told first, whatever its number.
func TestSignal(t *testing.T) {
	s := of(t, always(wish(api.Wait, 4)), always(wish(api.Wait, 4)), always(wish(api.Wait, -4)), always(wish(api.Wait, 4)), always(wish(api.Lock, 4)), always(wish(api.Sleep, 4)))
	for _, i := range []int{3, 0, 1, 0} {
		s.Pick(i)
	}
	s.Pick(0)
	s.Pick(1)
	lists(t, "Waiting", s.Waiting(4), 3, 0, 1)
	lists(t, "Waiting", s.Waiting(-4), 2)
	lists(t, "Waiting", s.Waiting(0))
	if n, is := s.Signal(0); n != 0 || is {
		t.Error(n, is)
	}
	for _, want := range []int{3, 0} {
		if n, is := s.Signal(4); n != want || !is {
			t.Error(n, is, want)
		}
		wishes(t, s, want, goOn)
	}
	lists(t, "Waiting", s.Waiting(4), 1)
	lists(t, "Waiting", s.Waiting(-4), 2)
	picks(t, s, 1, 3, api.OK)
	lists(t, "who waits anew is the last one", s.Waiting(4), 1, 3)
	picks(t, s, 0, 0, api.OK)
	lists(t, "who waits anew is the last one", s.Waiting(4), 1, 3, 0)
	if n := s.Broadcast(4); n != 3 {
		t.Error(n)
	}
	for _, n := range []int{0, 1, 3} {
		wishes(t, s, n, goOn)
	}
	wishes(t, s, 2, wish(api.Wait, -4))
	lists(t, "Waiting", s.Waiting(4))
	if n, is := s.Signal(4); n != 0 || is || s.Broadcast(4) != 0 {
		t.Error(n, is)
	}
}

// P4.2: who is told that nobody waits for is told nothing later.
func TestSignalIsNotKept(t *testing.T) {
	s := of(t, always(wish(api.Wait, 1)))
	s.Signal(1)
	s.Broadcast(1)
	picks(t, s, 0, 0, api.OK)
	lists(t, "Enabled", s.Enabled())
	lists(t, "Waiting", s.Waiting(1), 0)
}

// P4.2: two that wish Wait for the edges of what ints there are.
func TestWaitNumbers(t *testing.T) {
	for _, on := range []int{0, -1, most, least} {
		s := of(t, always(wish(api.Wait, on)))
		picks(t, s, 0, 0, api.OK)
		lists(t, "Waiting", s.Waiting(on), 0)
		lists(t, "Waiting", s.Waiting(on^1))
		if n := s.Broadcast(on ^ 1); n != 0 {
			t.Error(n)
		}
		if n, is := s.Signal(on); n != 0 || !is {
			t.Error(n, is)
		}
	}
}

// P4.2
func TestNoSuchTask(t *testing.T) {
	s := of(t, bad)
	s.Pick(0)
	for _, n := range []int{-1, 1, 64, most, least} {
		if w, e := s.Wish(n); w != (api.Wish{}) || e != api.ErrTask {
			t.Error(n, w, e)
		}
		if name, e := s.Name(n); name != "" || e != api.ErrTask {
			t.Error(n, name, e)
		}
		if s.Failed(n) {
			t.Error(n)
		}
	}
	if name, e := s.Name(0); name != "task" || e != api.OK {
		t.Error(name, e)
	}
}

// P4.2: none is Dead as long as one may go, or sleeps, even if that never ends.
func TestDead(t *testing.T) {
	wait, sleep := always(wish(api.Wait, 1)), always(wish(api.Sleep, 99))
	s := of(t, wait, plan(), wait)
	lists(t, "Dead", s.Dead())
	picks(t, s, 0, 0, api.OK)
	picks(t, s, 0, 1, api.OK)
	lists(t, "Dead", s.Dead())
	picks(t, s, 0, 2, api.OK)
	lists(t, "Dead", s.Dead(), 0, 2)
	n := spawn(t, s, sleep)
	lists(t, "Dead", s.Dead())
	picks(t, s, 0, n, api.OK)
	lists(t, "Enabled", s.Enabled())
	lists(t, "Dead", s.Dead())
	lists(t, "Alive", s.Alive(), 0, 2, 3)
}

// P4.2: all that are done: none is Dead.
func TestDeadOfNone(t *testing.T) {
	s := of(t, plan(), bad)
	runs(t, s, nil, 9, 2, api.OK)
	lists(t, "Dead", s.Dead())
	lists(t, "Alive", s.Alive())
}
