package sched_test

import (
	"fmt"
	"math/rand/v2"
	"slices"
	"strings"
	"testing"

	"sediment/api"
	"sediment/sched"
)

// scheduler is what Sched is held against: a model in the chapter's words.
type scheduler interface {
	Spawn(name string, step func() api.Wish) (int, api.Errno)
	Enabled() []int
	Pick(i int) (int, api.Errno)
	Run(picks []int, most int) (int, api.Errno)
	Unlock(task, lock int) api.Errno
	Signal(on int) (int, bool)
	Broadcast(on int) int
	Holder(lock int) (int, bool)
	Waiting(on int) []int
	Wish(task int) (api.Wish, api.Errno)
	Name(task int) (string, api.Errno)
	Failed(task int) bool
	Alive() []int
	Dead() []int
	Steps() int
}

// model keeps what the chapter tells in other shapes: queues of who waits, sleeps that are counted down, locks by task.
type model struct {
	names  []string
	steps  []func() api.Wish
	wishes []api.Wish
	left   []int // of one that sleeps: how many steps are left
	failed []bool
	has    [][]int // the locks of each task
	queue  []int   // who waits, whatever for, the longest first
	count  int
	busy   bool
}

func (m *model) Spawn(name string, step func() api.Wish) (int, api.Errno) {
	switch {
	case step == nil:
		return 0, api.ErrArg
	case len(m.names) >= 64:
		return 0, api.ErrLong
	}
	m.names = append(m.names, name)
	m.steps = append(m.steps, step)
	m.wishes = append(m.wishes, api.Wish{})
	m.left = append(m.left, 0)
	m.failed = append(m.failed, false)
	m.has = append(m.has, nil)
	return len(m.names) - 1, api.OK
}

func (m *model) enabled(n int) bool {
	switch w := m.wishes[n]; w.Kind {
	case api.Go:
		return true
	case api.Lock:
		_, held := m.Holder(w.On)
		return !held
	case api.Sleep:
		return m.left[n] <= 0
	}
	return false
}

func (m *model) Enabled() (l []int) {
	for n := range m.names {
		if m.enabled(n) {
			l = append(l, n)
		}
	}
	return l
}

func (m *model) Pick(i int) (int, api.Errno) {
	l := m.Enabled()
	if len(l) == 0 || m.busy {
		return 0, api.ErrState
	}
	if i < 0 {
		i = 0
	}
	n := l[i%len(l)]
	if m.wishes[n].Kind == api.Lock {
		m.has[n] = append(m.has[n], m.wishes[n].On)
	}
	m.wishes[n] = api.Wish{}
	m.busy = true
	w, ok := attempt(m.steps[n])
	m.busy = false
	m.count++
	for k := range m.left {
		m.left[k]--
	}
	if !ok {
		m.failed[n], m.has[n], m.wishes[n] = true, nil, api.Wish{Kind: api.Done}
		return n, api.ErrPanic
	}
	m.wishes[n] = w
	switch w.Kind {
	case api.Wait:
		m.queue = append(m.queue, n)
	case api.Sleep:
		m.left[n] = w.On
	case api.Go, api.Lock, api.Done:
	default:
		m.wishes[n] = api.Wish{Kind: api.Done}
	}
	return n, api.OK
}

func attempt(step func() api.Wish) (w api.Wish, ok bool) {
	defer func() {
		if recover() != nil {
			w, ok = api.Wish{}, false
		}
	}()
	return step(), true
}

func (m *model) Run(picks []int, most int) (int, api.Errno) {
	if m.busy {
		return 0, api.ErrState
	}
	n := 0
	for ; n < most && len(m.Enabled()) > 0; n++ {
		i := 0
		if len(picks) > 0 {
			i = picks[n%len(picks)]
		}
		m.Pick(i)
	}
	return n, api.OK
}

func (m *model) Unlock(task, lock int) api.Errno {
	if task < 0 || task >= len(m.names) {
		return api.ErrTask
	}
	at := slices.Index(m.has[task], lock)
	if at < 0 {
		return api.ErrLock
	}
	m.has[task] = slices.Delete(m.has[task], at, at+1)
	return api.OK
}

func (m *model) Signal(on int) (int, bool) {
	for at, n := range m.queue {
		if m.wishes[n].On == on {
			m.queue = slices.Delete(m.queue, at, at+1)
			m.wishes[n] = api.Wish{}
			return n, true
		}
	}
	return 0, false
}

func (m *model) Broadcast(on int) int {
	for n := 0; ; n++ {
		if _, is := m.Signal(on); !is {
			return n
		}
	}
}

func (m *model) Holder(lock int) (int, bool) {
	for n, l := range m.has {
		if slices.Contains(l, lock) {
			return n, true
		}
	}
	return 0, false
}

func (m *model) Waiting(on int) (l []int) {
	for _, n := range m.queue {
		if m.wishes[n].On == on {
			l = append(l, n)
		}
	}
	return l
}

func (m *model) Wish(task int) (api.Wish, api.Errno) {
	if task < 0 || task >= len(m.names) {
		return api.Wish{}, api.ErrTask
	}
	return m.wishes[task], api.OK
}

func (m *model) Name(task int) (string, api.Errno) {
	if task < 0 || task >= len(m.names) {
		return "", api.ErrTask
	}
	return m.names[task], api.OK
}

func (m *model) Failed(task int) bool {
	return task >= 0 && task < len(m.names) && m.failed[task]
}

func (m *model) Alive() (l []int) {
	for n, w := range m.wishes {
		if w.Kind != api.Done {
			l = append(l, n)
		}
	}
	return l
}

func (m *model) Dead() []int {
	asleep := slices.ContainsFunc(m.wishes, func(w api.Wish) bool { return w.Kind == api.Sleep })
	if asleep || len(m.Enabled()) > 0 {
		return nil
	}
	return m.Alive()
}

func (m *model) Steps() int { return m.count }

// play is a run by a seed: calls from outside, and from within steps; what all of them answered.
type play struct {
	s    scheduler
	r    *rand.Rand
	told strings.Builder
}

func (p *play) say(what string, answers ...any) { fmt.Fprintln(&p.told, what, fmt.Sprint(answers...)) }

func (p *play) number() int { return p.r.IntN(6) - 1 }

// call is some call, which a step may make, too.
func (p *play) call() {
	s, a, b := p.s, p.number(), p.number()
	switch p.r.IntN(14) {
	case 0:
		n, e := s.Pick(a)
		p.say("pick", n, e)
	case 1:
		n, e := s.Run([]int{a, b}, a)
		p.say("run", n, e)
	case 2:
		n, is := s.Signal(a)
		p.say("signal", n, is)
	case 3:
		p.say("broadcast", s.Broadcast(a))
	case 4:
		n, is := s.Holder(a)
		p.say("holder", n, is)
	case 5:
		p.say("waiting", s.Waiting(a))
	case 6:
		w, e := s.Wish(a)
		p.say("wish", w, e)
	case 7:
		p.say("failed", s.Failed(a))
	case 8:
		if p.r.IntN(4) == 0 {
			p.spawn()
		}
	default:
		p.say("unlock", s.Unlock(a, b))
	}
}

func (p *play) spawn() {
	var step func() api.Wish
	if p.r.IntN(10) > 0 {
		step = p.step
	}
	name := "t" + fmt.Sprint(p.r.IntN(100))
	n, e := p.s.Spawn(name, step)
	got, f := p.s.Name(n)
	p.say("spawn", n, e, got, f)
}

func (p *play) step() api.Wish {
	for range p.r.IntN(4) {
		p.call()
	}
	p.all()
	if p.r.IntN(30) == 0 {
		panic("bad")
	}
	if p.r.IntN(30) == 0 {
		return wish(p.r.IntN(20)-8, p.number())
	}
	return wish(p.r.IntN(4), p.number())
}

// all is all that is to be seen.
func (p *play) all() {
	p.say("all", p.s.Enabled(), p.s.Alive(), p.s.Dead(), p.s.Steps())
	for i := -1; i < 6; i++ {
		w, e := p.s.Wish(i)
		h, held := p.s.Holder(i)
		p.say("of", i, w, e, p.s.Failed(i), p.s.Waiting(i), h, held)
	}
}

func playOn(s scheduler, seed uint64) string {
	p := &play{s: s, r: rand.New(rand.NewPCG(seed, 4))}
	if seed%4 > 0 { // without one that goes on, many come to be stuck
		s.Spawn("ticker", func() api.Wish { p.call(); return goOn })
	}
	for range 1 + p.r.IntN(8) {
		p.spawn()
	}
	for range 200 {
		switch p.r.IntN(8) {
		case 0:
			p.call()
		case 1:
			n, e := s.Run([]int{p.number(), p.number(), p.number()}, p.r.IntN(12)-1)
			p.say("run", n, e)
		default:
			n, e := s.Pick(p.r.IntN(20) - 2)
			p.say("pick", n, e)
		}
		p.all()
	}
	return p.told.String()
}

// P4.1, P4.2, P4.4: whatever is called, from outside or within a step, Sched answers as the chapter's words.
func TestAgainstTheModel(t *testing.T) {
	steps := 0
	for seed := range uint64(400) {
		real, words := sched.New(), &model{}
		got, want := playOn(real, seed), playOn(words, seed)
		steps += real.Steps()
		if got == want {
			continue
		}
		g, w := strings.Split(got, "\n"), strings.Split(want, "\n")
		for i := range min(len(g), len(w)) {
			if g[i] != w[i] {
				t.Fatalf("seed %d, line %d: %q, want %q", seed, i, g[i], w[i])
			}
		}
		t.Fatal(seed, len(g), len(w))
	}
	if steps < 400*40 {
		t.Error("few steps were done:", steps)
	}
}
