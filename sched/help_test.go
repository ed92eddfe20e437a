package sched_test

import (
	"slices"
	"testing"

	"sediment/api"
	"sediment/sched"
)

const (
	most  = int(^uint(0) >> 1)
	least = -most - 1
)

func wish(kind, on int) api.Wish { return api.Wish{Kind: kind, On: on} }

var (
	goOn = wish(api.Go, 0)
	done = wish(api.Done, 0)
)

// plan is a step that answers wishes, one a call, and is done behind them.
func plan(wishes ...api.Wish) func() api.Wish {
	at := 0
	return func() api.Wish {
		at++
		if at > len(wishes) {
			return done
		}
		return wishes[at-1]
	}
}

// always is a step that answers the same wish each time.
func always(w api.Wish) func() api.Wish { return func() api.Wish { return w } }

func bad() api.Wish { panic("bad") }

// of is a scheduler with tasks of these steps.
func of(t *testing.T, steps ...func() api.Wish) *sched.Sched {
	t.Helper()
	s := sched.New()
	for _, step := range steps {
		spawn(t, s, step)
	}
	return s
}

func spawn(t *testing.T, s *sched.Sched, step func() api.Wish) int {
	t.Helper()
	n, e := s.Spawn("task", step)
	if e != api.OK {
		t.Fatalf("Spawn: %d", e)
	}
	return n
}

func picks(t *testing.T, s *sched.Sched, i, want int, err api.Errno) {
	t.Helper()
	if n, e := s.Pick(i); n != want || e != err {
		t.Errorf("Pick(%d): %d, %d, want %d, %d", i, n, e, want, err)
	}
}

func runs(t *testing.T, s *sched.Sched, l []int, many, want int, err api.Errno) {
	t.Helper()
	if n, e := s.Run(l, many); n != want || e != err {
		t.Errorf("Run(%v, %d): %d, %d, want %d, %d", l, many, n, e, want, err)
	}
}

func wishes(t *testing.T, s *sched.Sched, task int, want api.Wish) {
	t.Helper()
	if w, e := s.Wish(task); w != want || e != api.OK {
		t.Errorf("Wish(%d): %v, %d, want %v", task, w, e, want)
	}
}

func holds(t *testing.T, s *sched.Sched, lock, want int, held bool) {
	t.Helper()
	if n, is := s.Holder(lock); n != want || is != held {
		t.Errorf("Holder(%d): %d, %v, want %d, %v", lock, n, is, want, held)
	}
}

func lists(t *testing.T, what string, got []int, want ...int) {
	t.Helper()
	if !slices.Equal(got, want) {
		t.Errorf("%s: %v, want %v", what, got, want)
	}
}

func counts(t *testing.T, s *sched.Sched, want int) {
	t.Helper()
	if n := s.Steps(); n != want {
		t.Errorf("Steps: %d, want %d", n, want)
	}
}

func answers(t *testing.T, what string, got, want api.Errno) {
	t.Helper()
	if got != want {
		t.Errorf("%s: %d, want %d", what, got, want)
	}
}
