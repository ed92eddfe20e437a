package sched_test

import (
	"runtime"
	"strconv"
	"testing"

	"sediment/api"
	"sediment/sched"
)

// P4.1, P4.2
func TestNoTasks(t *testing.T) {
	s := sched.New()
	lists(t, "Enabled", s.Enabled())
	lists(t, "Alive", s.Alive())
	lists(t, "Dead", s.Dead())
	lists(t, "Waiting", s.Waiting(0))
	counts(t, s, 0)
	picks(t, s, 0, 0, api.ErrState)
	runs(t, s, []int{1}, 5, 0, api.OK)
	runs(t, s, nil, -1, 0, api.OK)
	holds(t, s, 0, 0, false)
	if n, is := s.Signal(0); n != 0 || is || s.Broadcast(0) != 0 || s.Failed(0) {
		t.Error(n, is)
	}
	answers(t, "Unlock", s.Unlock(0, 0), api.ErrTask)
}

// P4.1
func TestSpawn(t *testing.T) {
	s := sched.New()
	if n, e := s.Spawn("none", nil); n != 0 || e != api.ErrArg {
		t.Error(n, e)
	}
	lists(t, "Alive behind a refusal", s.Alive())
	var all []int
	for i := range 64 {
		if n, e := s.Spawn("t"+strconv.Itoa(i), plan()); n != i || e != api.OK {
			t.Error(i, n, e)
		}
		wishes(t, s, i, goOn)
		all = append(all, i)
	}
	if n, e := s.Spawn("one more", plan()); n != 0 || e != api.ErrLong {
		t.Error(n, e)
	}
	if n, e := s.Spawn("one more", nil); n != 0 || e != api.ErrArg {
		t.Error(n, e)
	}
	lists(t, "Enabled", s.Enabled(), all...)
	for i := range 64 {
		if n, e := s.Name(i); n != "t"+strconv.Itoa(i) || e != api.OK {
			t.Error(i, n, e)
		}
	}
	runs(t, s, nil, 100, 64, api.OK)
	if n, e := s.Spawn("those that are done count", plan()); n != 0 || e != api.ErrLong {
		t.Error(n, e)
	}
}

// P4.1: the name is the task's alone.
func TestNames(t *testing.T) {
	s := sched.New()
	for i, name := range []string{"", "same", "same", "\xff\x00"} {
		if n, e := s.Spawn(name, plan()); n != i || e != api.OK {
			t.Error(n, e)
		}
		if got, e := s.Name(i); got != name || e != api.OK {
			t.Error(got, e)
		}
	}
}

// P4.1
func TestPickPlaces(t *testing.T) {
	s := of(t, always(goOn), always(wish(api.Wait, 1)), always(goOn), always(goOn))
	picks(t, s, 1, 1, api.OK)
	lists(t, "Enabled", s.Enabled(), 0, 2, 3)
	for _, c := range []struct{ i, want int }{
		{0, 0}, {1, 2}, {2, 3}, {3, 0}, {4, 2}, {5, 3}, {6, 0},
		{-1, 0}, {-2, 0}, {-3, 0}, {least, 0}, {most, []int{0, 2, 3}[most%3]}, {most - 1, []int{0, 2, 3}[(most-1)%3]},
	} {
		picks(t, s, c.i, c.want, api.OK)
	}
	counts(t, s, 14)
}

// P4.1
func TestPickNone(t *testing.T) {
	s := of(t, plan(), plan(wish(api.Wait, 3)))
	picks(t, s, 0, 0, api.OK)
	picks(t, s, 0, 1, api.OK)
	for _, i := range []int{0, 1, -1, most, least} {
		picks(t, s, i, 0, api.ErrState)
	}
	counts(t, s, 2)
	lists(t, "Waiting", s.Waiting(3), 1)
}

// P4.1: a step that gives up, by whatever, is told by its number and ErrPanic, once.
func TestPanics(t *testing.T) {
	var none []int
	var nobody *int
	for what, step := range map[string]func() api.Wish{
		"text":    bad,
		"nil":     func() api.Wish { panic(nil) },
		"errno":   func() api.Wish { panic(api.ErrState) },
		"index":   func() api.Wish { return wish(none[len(none)], 0) },
		"pointer": func() api.Wish { return wish(*nobody, 0) },
	} {
		s := of(t, always(goOn), step, always(wish(api.Sleep, 2)))
		picks(t, s, 2, 2, api.OK)
		picks(t, s, 1, 1, api.ErrPanic)
		if !s.Failed(1) || s.Failed(0) || s.Failed(2) {
			t.Error(what, "Failed")
		}
		wishes(t, s, 1, done)
		counts(t, s, 2)
		lists(t, what, s.Enabled(), 0)
		picks(t, s, 1, 0, api.OK)
		lists(t, what+": a failed step counts for those that sleep", s.Enabled(), 0, 2)
		lists(t, what, s.Alive(), 0, 2)
		lists(t, what, s.Dead())
	}
}

// P4.2: a step that ends its goroutine did not answer: it failed, and the scheduler goes on.
func TestStepEndsItsGoroutine(t *testing.T) {
	s := of(t, func() api.Wish { runtime.Goexit(); return goOn }, always(goOn))
	ended := make(chan bool)
	go func() {
		defer close(ended)
		s.Pick(0)
	}()
	<-ended
	counts(t, s, 1)
	if !s.Failed(0) {
		t.Error("not failed")
	}
	picks(t, s, 0, 1, api.OK)
}

// P4.2: all locks of one that panics are let go, those of others are not.
func TestPanicLetsGo(t *testing.T) {
	other := plan(wish(api.Lock, 9), wish(api.Lock, -9), goOn)
	wild := plan(wish(api.Lock, 0), wish(api.Lock, -1), wish(api.Lock, most), wish(api.Lock, least))
	at := 0
	s := of(t, other, func() api.Wish {
		if at++; at > 5 {
			panic(at)
		}
		if at == 5 {
			return goOn
		}
		return wild()
	})
	runs(t, s, []int{0}, 3, 3, api.OK)
	runs(t, s, []int{1}, 5, 5, api.OK)
	for _, lock := range []int{0, -1, most, least} {
		holds(t, s, lock, 1, true)
	}
	picks(t, s, 1, 1, api.ErrPanic)
	for _, lock := range []int{0, -1, most, least} {
		holds(t, s, lock, 0, false)
		answers(t, "Unlock", s.Unlock(1, lock), api.ErrLock)
	}
	holds(t, s, 9, 0, true)
	holds(t, s, -9, 0, true)
	answers(t, "Unlock", s.Unlock(0, 9), api.OK)
}

// P4.2: the lock that it had just got, too.
func TestPanicAtItsLock(t *testing.T) {
	at := 0
	s := of(t, func() api.Wish {
		if at++; at == 1 {
			return wish(api.Lock, 4)
		}
		panic(at)
	}, plan(wish(api.Lock, 4)))
	picks(t, s, 0, 0, api.OK)
	picks(t, s, 1, 1, api.OK)
	picks(t, s, 0, 0, api.ErrPanic)
	holds(t, s, 4, 0, false)
	lists(t, "Enabled", s.Enabled(), 1)
}

// P4.2: one that is done lets go of nothing by itself; others may let go of it.
func TestDoneHolds(t *testing.T) {
	s := of(t, plan(wish(api.Lock, 2)), plan(wish(api.Lock, 2)))
	runs(t, s, []int{0, 0, 0}, 99, 3, api.OK)
	wishes(t, s, 0, done)
	holds(t, s, 2, 0, true)
	lists(t, "Dead", s.Dead(), 1)
	answers(t, "Unlock", s.Unlock(0, 2), api.OK)
	picks(t, s, 0, 1, api.OK)
	holds(t, s, 2, 1, true)
}

// P4.1
func TestRun(t *testing.T) {
	var trace []int
	step := func(n int) func() api.Wish {
		return func() api.Wish { trace = append(trace, n); return goOn }
	}
	for _, c := range []struct {
		picks []int
		most  int
		want  []int
	}{
		{nil, 0, nil},
		{nil, -1, nil},
		{nil, least, nil},
		{[]int{1}, 0, nil},
		{[]int{1, 2}, -5, nil},
		{nil, 3, []int{0, 0, 0}},
		{[]int{}, 2, []int{0, 0}},
		{[]int{2}, 2, []int{2, 2}},
		{[]int{2, 0, 1}, 1, []int{2}},
		{[]int{2, 0, 1}, 3, []int{2, 0, 1}},
		{[]int{2, 0, 1}, 8, []int{2, 0, 1, 2, 0, 1, 2, 0}},
		{[]int{-1, 4, 3, 5, least}, 6, []int{0, 1, 0, 2, 0, 0}},
	} {
		trace = nil
		s := of(t, step(0), step(1), step(2))
		runs(t, s, c.picks, c.most, len(c.want), api.OK)
		lists(t, "picked", trace, c.want...)
		counts(t, s, len(c.want))
	}
}

// P4.1: each Run begins with the first pick.
func TestRunAgain(t *testing.T) {
	var trace []int
	step := func(n int) func() api.Wish {
		return func() api.Wish { trace = append(trace, n); return goOn }
	}
	s := of(t, step(0), step(1), step(2))
	runs(t, s, []int{2, 1, 0}, 2, 2, api.OK)
	runs(t, s, []int{2, 1, 0}, 2, 2, api.OK)
	lists(t, "picked", trace, 2, 1, 2, 1)
	counts(t, s, 4)
}

// P4.1: it ends when none may go; that tasks fail plays no part, and their steps count.
func TestRunToTheEnd(t *testing.T) {
	s := of(t, plan(goOn, goOn), bad, plan(wish(api.Wait, 1)), bad)
	runs(t, s, []int{3, 1, 0}, most, 6, api.OK)
	counts(t, s, 6)
	if !s.Failed(1) || !s.Failed(3) || s.Failed(0) {
		t.Error("Failed")
	}
	lists(t, "Alive", s.Alive(), 2)
	runs(t, s, []int{3, 1, 0}, most, 0, api.OK)
	counts(t, s, 6)
}

// P4.1: the picks are not changed.
func TestPicksStay(t *testing.T) {
	l := []int{5, -1, 7, 2, 99, 98}
	s := of(t, always(goOn), plan(goOn), bad)
	runs(t, s, l[:4], 9, 9, api.OK)
	lists(t, "picks", l, 5, -1, 7, 2, 99, 98)
}

// P4.1, P4.3: Pick and Run answer ErrState to a step, and nothing is changed.
func TestStepPicks(t *testing.T) {
	var s *sched.Sched
	calls := 0
	s = of(t, func() api.Wish {
		calls++
		for _, i := range []int{0, 1, -1} {
			picks(t, s, i, 0, api.ErrState)
		}
		runs(t, s, nil, 3, 0, api.ErrState)
		runs(t, s, []int{1}, 0, 0, api.ErrState)
		runs(t, s, []int{1}, -1, 0, api.ErrState)
		counts(t, s, calls-1)
		if calls == 2 {
			panic(calls)
		}
		return goOn
	}, always(goOn))
	picks(t, s, 0, 0, api.OK)
	picks(t, s, 0, 0, api.ErrPanic)
	picks(t, s, 0, 1, api.OK)
	runs(t, s, nil, 2, 2, api.OK)
	if calls != 2 {
		t.Error(calls)
	}
}

// P4.3: to a step of another scheduler, too, as long as its own step goes on.
func TestStepPicksThroughAnother(t *testing.T) {
	var a, b *sched.Sched
	a = of(t, func() api.Wish { picks(t, b, 0, 0, api.OK); return goOn }, always(goOn))
	b = of(t, func() api.Wish { picks(t, a, 1, 0, api.ErrState); return goOn })
	picks(t, a, 0, 0, api.OK)
	counts(t, a, 1)
	counts(t, b, 1)
	picks(t, a, 1, 1, api.OK)
}

// P4.1: what a step sees: it has its lock, its wish is Go, and its step is not done yet.
func TestWithinAStep(t *testing.T) {
	var s *sched.Sched
	at := 0
	s = of(t, func() api.Wish {
		at++
		wishes(t, s, 0, goOn)
		counts(t, s, at)
		lists(t, "Alive", s.Alive(), 0, 1)
		lists(t, "Dead", s.Dead())
		lists(t, "Waiting", s.Waiting(5))
		if s.Failed(0) {
			t.Error("failed ahead of its end")
		}
		switch at {
		case 1:
			lists(t, "Enabled", s.Enabled(), 0)
			holds(t, s, 5, 0, false)
			return wish(api.Lock, 5)
		case 2:
			lists(t, "Enabled", s.Enabled(), 0)
			holds(t, s, 5, 0, true)
			answers(t, "Unlock by another", s.Unlock(1, 5), api.ErrLock)
			return wish(api.Wait, 5)
		case 3:
			lists(t, "Enabled", s.Enabled(), 0, 1)
			holds(t, s, 5, 0, true)
			answers(t, "Unlock", s.Unlock(0, 5), api.OK)
			holds(t, s, 5, 0, false)
			return wish(api.Sleep, 0)
		}
		lists(t, "Enabled", s.Enabled(), 0, 1)
		return wish(api.Lock, 5)
	}, always(wish(api.Sleep, 2)))
	picks(t, s, 1, 1, api.OK)
	picks(t, s, 0, 0, api.OK)
	picks(t, s, 0, 0, api.OK)
	lists(t, "Waiting", s.Waiting(5), 0)
	if n, is := s.Signal(5); n != 0 || !is {
		t.Error(n, is)
	}
	picks(t, s, 0, 0, api.OK)
	wishes(t, s, 0, wish(api.Sleep, 0))
	picks(t, s, 0, 0, api.OK)
	holds(t, s, 5, 0, false)
	lists(t, "Enabled", s.Enabled(), 0, 1)
}

// P4.1: a step may Spawn, as many as there is room for; they are there at once.
func TestStepSpawns(t *testing.T) {
	var s *sched.Sched
	s = of(t, func() api.Wish {
		for i := 1; i < 64; i++ {
			if n := spawn(t, s, plan(wish(api.Wait, 1))); n != i {
				t.Error(n, i)
			}
		}
		if len(s.Enabled()) != 64 {
			t.Error(s.Enabled())
		}
		_, e := s.Spawn("", plan())
		answers(t, "Spawn", e, api.ErrLong)
		return wish(api.Wait, 2)
	})
	picks(t, s, 7, 0, api.OK)
	wishes(t, s, 0, wish(api.Wait, 2))
	lists(t, "Waiting", s.Waiting(2), 0)
	if l := s.Enabled(); len(l) != 63 || l[0] != 1 || l[62] != 63 {
		t.Error(l)
	}
	runs(t, s, []int{62, 0}, 99, 63, api.OK)
}

// P4.2: what a step did ahead of its panic stays.
func TestStepTellsAndPanics(t *testing.T) {
	var s *sched.Sched
	s = of(t, plan(wish(api.Wait, 1), wish(api.Wait, 1)), plan(wish(api.Wait, 1)), func() api.Wish {
		if n, is := s.Signal(1); n != 1 || !is {
			t.Error(n, is)
		}
		spawn(t, s, plan())
		panic("bad")
	})
	picks(t, s, 1, 1, api.OK)
	picks(t, s, 0, 0, api.OK)
	picks(t, s, 0, 2, api.ErrPanic)
	lists(t, "Enabled", s.Enabled(), 1, 3)
	lists(t, "Waiting", s.Waiting(1), 0)
}

// P4.1: a Sleep counts the steps behind the one that wished it, of whichever tasks.
func TestSleeps(t *testing.T) {
	for _, on := range []int{1, 2, 3, 7} {
		s := of(t, plan(goOn, wish(api.Sleep, on)), always(goOn))
		runs(t, s, []int{0, 0}, 2, 2, api.OK)
		for range on {
			wishes(t, s, 0, wish(api.Sleep, on))
			lists(t, "Enabled", s.Enabled(), 1)
			lists(t, "Dead", s.Dead())
			picks(t, s, 0, 1, api.OK)
		}
		lists(t, "Enabled", s.Enabled(), 0, 1)
		wishes(t, s, 0, wish(api.Sleep, on))
		picks(t, s, 1, 1, api.OK)
		lists(t, "Enabled later", s.Enabled(), 0, 1)
		picks(t, s, 0, 0, api.OK)
		wishes(t, s, 0, done)
	}
}

// P4.1
func TestSleepEdges(t *testing.T) {
	for _, on := range []int{0, -1, least} {
		s := of(t, always(wish(api.Sleep, on)))
		runs(t, s, nil, 5, 5, api.OK)
		wishes(t, s, 0, wish(api.Sleep, on))
		lists(t, "Enabled", s.Enabled(), 0)
	}
	for _, on := range []int{most, most - 1, 1} {
		s := of(t, always(wish(api.Sleep, on)))
		runs(t, s, nil, 5, 1, api.OK)
		lists(t, "Dead", s.Dead())
		lists(t, "Alive", s.Alive(), 0)
		picks(t, s, 0, 0, api.ErrState)
	}
}

// P4.1: a Lock may go when nobody holds it: it itself neither.
func TestLocks(t *testing.T) {
	for _, lock := range []int{0, 1, -1, most, least} {
		s := of(t, always(wish(api.Lock, lock)), always(wish(api.Lock, lock)), plan(wish(api.Lock, 77)))
		picks(t, s, 0, 0, api.OK)
		wishes(t, s, 0, wish(api.Lock, lock))
		holds(t, s, lock, 0, false)
		lists(t, "Enabled", s.Enabled(), 0, 1, 2)
		picks(t, s, 1, 1, api.OK)
		picks(t, s, 1, 1, api.OK)
		holds(t, s, lock, 1, true)
		lists(t, "Enabled", s.Enabled(), 2)
		picks(t, s, 0, 2, api.OK)
		picks(t, s, 0, 2, api.OK)
		holds(t, s, 77, 2, true)
		lists(t, "Dead", s.Dead(), 0, 1)
		answers(t, "Unlock", s.Unlock(1, lock), api.OK)
		lists(t, "Enabled", s.Enabled(), 0, 1)
	}
}

// P4.2: a wish is kept as it was told, but one of a Kind that is none is Done, On 0.
func TestWishes(t *testing.T) {
	for _, w := range []api.Wish{goOn, wish(api.Go, 3), wish(api.Lock, -2), wish(api.Wait, most), wish(api.Sleep, 8), wish(api.Done, 6), done} {
		s := of(t, always(w))
		picks(t, s, 0, 0, api.OK)
		wishes(t, s, 0, w)
		if got := len(s.Alive()); (got == 0) != (w.Kind == api.Done) {
			t.Error(w, got)
		}
	}
	for _, kind := range []int{-1, 5, 6, most, least} {
		s := of(t, always(wish(kind, 7)))
		picks(t, s, 0, 0, api.OK)
		wishes(t, s, 0, done)
		picks(t, s, 0, 0, api.ErrState)
		lists(t, "Alive", s.Alive())
		lists(t, "Dead", s.Dead())
		if s.Failed(0) {
			t.Error("failed")
		}
	}
}

// P4.1, P4.2: a list that is answered is the caller's.
func TestListsAreNew(t *testing.T) {
	s := of(t, plan(wish(api.Wait, 1)), plan(wish(api.Wait, 1)), plan(wish(api.Wait, 1)), always(goOn), always(goOn))
	spoil := func(what string, tell func() []int, want ...int) {
		t.Helper()
		first, second := tell(), tell()
		lists(t, what, first, want...)
		clear(first[:cap(first)])
		lists(t, what+" told at the same time", second, want...)
		lists(t, what+" told again", tell(), want...)
	}
	spoil("Enabled", s.Enabled, 0, 1, 2, 3, 4)
	spoil("Alive", s.Alive, 0, 1, 2, 3, 4)
	for _, i := range []int{2, 0, 0} {
		s.Pick(i)
	}
	spoil("Waiting", func() []int { return s.Waiting(1) }, 2, 0, 1)
	spoil("Enabled", s.Enabled, 3, 4)
	stuck := of(t, plan(wish(api.Wait, 1)), plan(wish(api.Wait, 1)))
	stuck.Run(nil, 9)
	spoil("Dead", stuck.Dead, 0, 1)
}
