package sched_test

import (
	"math/rand/v2"
	"slices"
	"testing"

	"sediment/api"
	"sediment/sched"
)

// P4.3: tasks that take locks and let them go: who is within a lock is alone there, and so is who is within a step.
func TestOneAtATime(t *testing.T) {
	for seed := range uint64(200) {
		r := rand.New(rand.NewPCG(seed, 43))
		s := sched.New()
		within := 0
		inside := map[int]int{} // of a lock: who is there, by the tasks' own word
		for range 2 + r.IntN(8) {
			spawnGuest(t, s, r, &within, inside)
		}
		for s.Steps() < 300 {
			if _, e := s.Pick(r.IntN(50)); e == api.ErrState {
				break
			}
			for lock, n := range inside {
				holds(t, s, lock, n, true)
			}
		}
	}
}

// spawnGuest: a task that goes into a room behind a lock, stays some steps, and leaves, again and again.
func spawnGuest(t *testing.T, s *sched.Sched, r *rand.Rand, within *int, inside map[int]int) {
	me, lock, stay := 0, 0, -1
	me = spawn(t, s, func() api.Wish {
		if *within++; *within != 1 {
			t.Error("a step within a step")
		}
		defer func() { *within-- }()
		if stay < 0 {
			stay, lock = 1+r.IntN(3), r.IntN(3)
			return wish(api.Lock, lock)
		}
		if other, is := inside[lock]; is && other != me {
			t.Error("two hold a lock")
		}
		inside[lock] = me
		if stay--; stay >= 0 {
			return goOn
		}
		delete(inside, lock)
		answers(t, "Unlock", s.Unlock(me, lock), api.OK)
		return goOn
	})
}

// mixed is a scheduler of tasks that do a little of all, by a seed; trace is told who went.
func mixed(t *testing.T, seed uint64, trace *[]int) *sched.Sched {
	s := of(t, always(goOn))
	for n := range 9 {
		r := rand.New(rand.NewPCG(seed, uint64(n)))
		spawn(t, s, func() api.Wish {
			*trace = append(*trace, n)
			s.Unlock(n+1, r.IntN(4))
			s.Signal(r.IntN(2))
			if r.IntN(40) == 0 {
				panic(n)
			}
			if r.IntN(20) == 0 {
				s.Broadcast(r.IntN(2))
			}
			return wish(r.IntN(4), r.IntN(4))
		})
	}
	return s
}

// P4.4
func TestAgain(t *testing.T) {
	long := 0
	for seed := range uint64(50) {
		r := rand.New(rand.NewPCG(seed, 44))
		l := make([]int, 1+r.IntN(40))
		for i := range l {
			l[i] = r.IntN(100) - 5
		}
		var first, second []int
		a, b := mixed(t, seed, &first), mixed(t, seed, &second)
		n, e := a.Run(l, 500)
		runs(t, b, l, 500, n, e)
		if !slices.Equal(first, second) {
			t.Fatal(seed, first, second)
		}
		lists(t, "Alive", a.Alive(), b.Alive()...)
		long = max(long, len(first))
	}
	if long < 50 {
		t.Error("all runs are short", long)
	}
}

// P4.4: one Run, and as many Picks.
func TestRunIsPicks(t *testing.T) {
	for seed := range uint64(50) {
		l := []int{3, 0, -2, 7, 5}
		var first, second []int
		a, b := mixed(t, seed, &first), mixed(t, seed, &second)
		n, _ := a.Run(l, 200)
		for i := range n {
			if _, e := b.Pick(l[i%len(l)]); e == api.ErrState {
				t.Fatal(seed, i)
			}
		}
		lists(t, "picked", second, first...)
	}
}

// P4.5
func TestAllInTurn(t *testing.T) {
	for seed := range uint64(300) {
		r := rand.New(rand.NewPCG(seed, 45))
		many := 1 + r.IntN(64)
		last := make([]int, many) // behind how many steps each went last
		s := sched.New()
		for n := range many {
			life := 1 + r.IntN(1+r.IntN(200))
			spawn(t, s, func() api.Wish {
				last[n] = s.Steps()
				if life--; life == 0 {
					return done
				}
				return goOn
			})
		}
		for i := 0; len(s.Enabled()) > 0; i++ {
			s.Pick(i)
			for _, n := range s.Alive() {
				if s.Steps()-last[n] > 2*many*many {
					t.Fatal(seed, many, n, "was not picked")
				}
			}
		}
		lists(t, "Alive", s.Alive())
	}
}

// P4.5: the same by Run.
func TestAllInTurnByRun(t *testing.T) {
	const many = 64
	l := make([]int, 2*many*many)
	for i := range l {
		l[i] = i
	}
	for first := range many {
		went := make([]int, many)
		s := sched.New()
		for n := range many {
			spawn(t, s, func() api.Wish {
				went[n]++
				if n < first {
					return done
				}
				return goOn
			})
		}
		runs(t, s, l, len(l), len(l), api.OK)
		if slices.Min(went) == 0 {
			t.Fatal(first, went)
		}
	}
}

// Example 1
func TestTwoWaysAbout(t *testing.T) {
	s := of(t, plan(wish(api.Lock, 1), wish(api.Lock, 2)), plan(wish(api.Lock, 2), wish(api.Lock, 1)))
	for i := range 4 {
		lists(t, "Dead", s.Dead())
		picks(t, s, i, i%2, api.OK)
	}
	lists(t, "Dead", s.Dead(), 0, 1)
	picks(t, s, 0, 0, api.ErrState)
}

// P4.6: what is Dead stays so, whatever is picked, and is let go by the four calls.
func TestDeadStays(t *testing.T) {
	dead := func() *sched.Sched {
		s := of(t, plan(wish(api.Lock, 1), wish(api.Lock, 1)), plan(wish(api.Wait, 2)), plan(wish(api.Lock, 1)), plan())
		s.Run(nil, 99)
		lists(t, "Dead", s.Dead(), 0, 1, 2)
		return s
	}
	s := dead()
	for i := range 10 {
		picks(t, s, i, 0, api.ErrState)
		runs(t, s, []int{i}, 9, 0, api.OK)
		answers(t, "Unlock", s.Unlock(i, 2), []api.Errno{api.ErrLock, api.ErrTask}[min(i/4, 1)])
		s.Signal(1)
		s.Broadcast(0)
	}
	lists(t, "Dead", s.Dead(), 0, 1, 2)
	for what, free := range map[string]func(s *sched.Sched) int{
		"Unlock":    func(s *sched.Sched) int { s.Unlock(0, 1); return 0 },
		"Signal":    func(s *sched.Sched) int { n, _ := s.Signal(2); return n },
		"Broadcast": func(s *sched.Sched) int { s.Broadcast(2); return 1 },
		"Spawn": func(s *sched.Sched) int {
			return spawn(t, s, func() api.Wish { s.Broadcast(2); return done })
		},
	} {
		s := dead()
		n := free(s)
		lists(t, what, s.Dead())
		picks(t, s, 0, n, api.OK)
	}
}

// P4.6: locks that are taken in rising order.
func TestRisingLocks(t *testing.T) {
	for seed := range uint64(300) {
		r := rand.New(rand.NewPCG(seed, 46))
		s := sched.New()
		many := 2 + r.IntN(12)
		for range many {
			spawnClimber(t, s, r)
		}
		for len(s.Enabled()) > 0 {
			s.Pick(r.IntN(100))
			if l := s.Dead(); len(l) > 0 {
				t.Fatal(seed, l)
			}
		}
		lists(t, "Alive", s.Alive())
	}
}

// spawnClimber: a task that takes some locks, rising, goes on with them, and lets them go.
func spawnClimber(t *testing.T, s *sched.Sched, r *rand.Rand) {
	var locks []int
	for lock := range 6 {
		if r.IntN(2) == 0 {
			locks = append(locks, lock)
		}
	}
	me, at, rest := 0, 0, r.IntN(4)
	me = spawn(t, s, func() api.Wish {
		if at < len(locks) {
			at++
			return wish(api.Lock, locks[at-1])
		}
		if rest--; rest > 0 {
			return goOn
		}
		if len(locks) == 0 {
			return done
		}
		answers(t, "Unlock", s.Unlock(me, locks[0]), api.OK)
		locks = locks[1:]
		at--
		return goOn
	})
}
