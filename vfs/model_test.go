package vfs_test

import (
	"math/rand/v2"
	"slices"
	"strconv"
	"strings"
	"testing"

	"sediment/api"
	"sediment/vfs"
)

// model is a disk as the chapter's words have it: what stands fast, and what is open beside it, put together whenever it is asked.
type model struct {
	quota      int
	dirs       map[string]*modelDir
	fail, stop struct{ n, many, seen int }
}

type modelDir struct {
	fast map[string]*modelFile
	open []func(map[string]*modelFile)
}

type modelFile struct {
	fast []byte
	open []modelWrite
}

type modelWrite struct {
	at int
	b  []byte
}

func (d *modelDir) at(n int) map[string]*modelFile {
	m := map[string]*modelFile{}
	for name, x := range d.fast {
		m[name] = x
	}
	for _, change := range d.open[:n] {
		change(m)
	}
	return m
}

func (d *modelDir) now() map[string]*modelFile { return d.at(len(d.open)) }

func (x *modelFile) unsynced() int {
	n := 0
	for _, w := range x.open {
		n += len(w.b)
	}
	return n
}

// with is a file's bytes with the first n of those that are not fast.
func (x *modelFile) with(n int) []byte {
	b := slices.Clone(x.fast)
	for _, w := range x.open {
		part := w.b[:min(n, len(w.b))]
		n -= len(part)
		if len(part) == 0 {
			break
		}
		b = slices.Concat(b[:w.at], part, b[min(w.at+len(part), len(b)):])
	}
	return b
}

func (x *modelFile) now() []byte { return x.with(x.unsynced()) }

type modelPath struct {
	path string
	file *modelFile
}

func (m *model) names() []string {
	var l []string
	for d := range m.dirs {
		l = append(l, d)
	}
	slices.Sort(l)
	return l
}

func (m *model) paths() []modelPath {
	var l []modelPath
	for _, d := range m.names() {
		now := m.dirs[d].now()
		var names []string
		for name := range now {
			names = append(names, name)
		}
		slices.Sort(names)
		for _, name := range names {
			l = append(l, modelPath{d + "/" + name, now[name]})
		}
	}
	return l
}

func (m *model) used() int {
	seen := map[*modelFile]bool{}
	n := 0
	for _, p := range m.paths() {
		if !seen[p.file] {
			n += len(p.file.now())
		}
		seen[p.file] = true
	}
	return n
}

// told is what help's told of the disk should be.
func (m *model) told() string {
	var s []string
	for _, d := range m.names() {
		var names []string
		for name := range m.dirs[d].now() {
			names = append(names, name)
		}
		slices.Sort(names)
		s = append(s, d+": "+strings.Join(names, " ")+" open "+strconv.Itoa(len(m.dirs[d].open))+" 0")
	}
	first := map[*modelFile]string{}
	for _, p := range m.paths() {
		if first[p.file] == "" {
			first[p.file] = p.path
		}
		s = append(s, p.path+" = "+strconv.Quote(string(p.file.now()))+" open "+strconv.Itoa(p.file.unsynced())+" first "+first[p.file])
	}
	return strings.Join(append(s, "used "+strconv.Itoa(m.used())), "\n")
}

// change counts a change: its error, and whether half of it is done.
func (m *model) change() (api.Errno, bool) {
	m.fail.seen++
	m.stop.seen++
	if m.stop.n >= 1 && m.stop.seen >= m.stop.n {
		return api.ErrStop, m.stop.seen == m.stop.n
	}
	if m.fail.n >= 1 && m.fail.many >= 1 && m.fail.seen >= m.fail.n && m.fail.seen <= m.fail.n+m.fail.many-1 {
		return api.ErrIO, m.fail.seen == m.fail.n
	}
	return api.OK, false
}

func (m *model) done(do func()) api.Errno {
	e, _ := m.change()
	if e == api.OK {
		do()
	}
	return e
}

// look is of a path that is one.
func (m *model) look(path string) (*modelDir, string, *modelFile) {
	dir, name, _ := strings.Cut(path, "/")
	d := m.dirs[dir]
	if d == nil {
		return nil, "", nil
	}
	return d, name, d.now()[name]
}

func (m *model) mkdir(dir string) api.Errno {
	if m.dirs[dir] != nil {
		return api.ErrThere
	}
	return m.done(func() { m.dirs[dir] = &modelDir{} })
}

func (m *model) rmdir(dir string) api.Errno {
	d := m.dirs[dir]
	if d == nil {
		return api.ErrNone
	}
	if len(d.now()) > 0 {
		return api.ErrState
	}
	return m.done(func() { delete(m.dirs, dir) })
}

func (m *model) create(path string) api.Errno {
	d, name, x := m.look(path)
	if d == nil {
		return api.ErrNone
	}
	if x != nil {
		return api.ErrThere
	}
	return m.done(func() {
		x := &modelFile{}
		d.open = append(d.open, func(m map[string]*modelFile) { m[name] = x })
	})
}

func (m *model) write(path string, at int, end bool, b []byte) api.Errno {
	_, _, x := m.look(path)
	if x == nil {
		return api.ErrNone
	}
	size := len(x.now())
	if end {
		at = size
	}
	if at < 0 || at > size {
		return api.ErrArg
	}
	if n := m.used() + max(0, at+len(b)-size); n > m.used() && n > m.quota {
		return api.ErrDisk
	}
	e, half := m.change()
	if half {
		b = b[:len(b)/2]
	}
	if (half || e == api.OK) && len(b) > 0 {
		x.open = append(x.open, modelWrite{at, slices.Clone(b)})
	}
	return e
}

func (m *model) cut(path string, n int) api.Errno {
	_, _, x := m.look(path)
	if x == nil {
		return api.ErrNone
	}
	if n < 0 || n > len(x.now()) {
		return api.ErrArg
	}
	return m.done(func() { *x = modelFile{fast: x.now()[:n]} })
}

func (m *model) rename(from, to string) api.Errno {
	d, old, x := m.look(from)
	g, name, _ := m.look(to)
	if d == nil || g == nil || x == nil {
		return api.ErrNone
	}
	return m.done(func() {
		switch {
		case from == to:
		case d == g:
			d.open = append(d.open, func(m map[string]*modelFile) { m[name] = x; delete(m, old) })
		default:
			g.open = append(g.open, func(m map[string]*modelFile) { m[name] = x })
			d.open = append(d.open, func(m map[string]*modelFile) { delete(m, old) })
		}
	})
}

func (m *model) link(from, to string) api.Errno {
	_, _, x := m.look(from)
	g, name, y := m.look(to)
	if g == nil || x == nil {
		return api.ErrNone
	}
	if y != nil {
		return api.ErrThere
	}
	return m.done(func() { g.open = append(g.open, func(m map[string]*modelFile) { m[name] = x }) })
}

func (m *model) remove(path string) api.Errno {
	d, name, x := m.look(path)
	if x == nil {
		return api.ErrNone
	}
	return m.done(func() { d.open = append(d.open, func(m map[string]*modelFile) { delete(m, name) }) })
}

func (m *model) sync(path string) api.Errno {
	_, _, x := m.look(path)
	if x == nil {
		return api.ErrNone
	}
	return m.done(func() { *x = modelFile{fast: x.now()} })
}

func (m *model) syncDir(dir string) api.Errno {
	d := m.dirs[dir]
	if d == nil {
		return api.ErrNone
	}
	return m.done(func() { *d = modelDir{fast: d.now()} })
}

func (m *model) flip(path string, bit int) api.Errno {
	_, _, x := m.look(path)
	switch {
	case x == nil:
		return api.ErrNone
	case len(x.open) > 0:
		return api.ErrState
	case bit < 0 || bit > 8*len(x.fast)-1:
		return api.ErrArg
	}
	x.fast[bit/8] ^= 1 << (bit % 8)
	return api.OK
}

func (m *model) crash(keeps, names []int) {
	i := 0
	next := func(l []int) int {
		if len(l) == 0 {
			return 0
		}
		i++
		return max(0, l[(i-1)%len(l)])
	}
	for _, name := range m.names() {
		if d := m.dirs[name]; len(d.open) > 0 {
			*d = modelDir{fast: d.at(next(names) % (len(d.open) + 1))}
		}
	}
	i = 0
	for _, p := range m.paths() {
		if n := p.file.unsynced(); n > 0 {
			*p.file = modelFile{fast: p.file.with(next(keeps) % (n + 1))}
		}
	}
	m.fail.n, m.stop.n = 0, 0
}

// numbers is a short list, some of it below 0.
func numbers(r *rand.Rand) []int {
	l := make([]int, r.IntN(4))
	for i := range l {
		l[i] = r.IntN(30) - 2
	}
	return l
}

// both does one call on a disk and on a model: what each of them answered.
func both(r *rand.Rand, f *vfs.FS, m *model) (string, api.Errno, api.Errno) {
	dir := func() string { return []string{"d", "d!", "e"}[r.IntN(3)] }
	path := func() string { return dir() + "/" + []string{"a", "b", "c", "!"}[r.IntN(4)] }
	b := []byte("abcdefghijklmnopqrstuvwxyz")[r.IntN(18):][:r.IntN(9)]
	p, q, d, n := path(), path(), dir(), r.IntN(14)-1
	switch r.IntN(26) {
	case 0, 1:
		return "Mkdir " + d, f.Mkdir(d), m.mkdir(d)
	case 2:
		return "Rmdir " + d, f.Rmdir(d), m.rmdir(d)
	case 3, 4, 5, 6:
		return "Create " + p, f.Create(p), m.create(p)
	case 7, 8, 9, 10:
		return "Write " + p + " " + strconv.Itoa(n) + " " + string(b), f.Write(p, n, b), m.write(p, n, false, b)
	case 11, 12, 13:
		return "Append " + p + " " + string(b), f.Append(p, b), m.write(p, 0, true, b)
	case 14:
		return "Cut " + p + " " + strconv.Itoa(n), f.Cut(p, n), m.cut(p, n)
	case 15, 16:
		return "Rename " + p + " " + q, f.Rename(p, q), m.rename(p, q)
	case 17, 18:
		return "Link " + p + " " + q, f.Link(p, q), m.link(p, q)
	case 19, 20:
		return "Remove " + p, f.Remove(p), m.remove(p)
	case 21:
		return "Sync " + p, f.Sync(p), m.sync(p)
	case 22:
		return "SyncDir " + d, f.SyncDir(d), m.syncDir(d)
	case 23:
		return "Flip " + p + " " + strconv.Itoa(n), f.Flip(p, n), m.flip(p, n)
	case 24:
		many := r.IntN(4)
		f.Fail(n, many)
		m.fail.n, m.fail.many, m.fail.seen = n, many, 0
		return "Fail " + strconv.Itoa(n) + " " + strconv.Itoa(many), api.OK, api.OK
	}
	if n = 2*n - 6; r.IntN(2) == 0 {
		f.Stop(n)
		m.stop.n, m.stop.seen = n, 0
		return "Stop " + strconv.Itoa(n), api.OK, api.OK
	}
	keeps, names := numbers(r), numbers(r)
	f.Crash(keeps, names)
	m.crash(keeps, names)
	return "Crash", api.OK, api.OK
}

// P2.1 to P2.7, P2.11: whatever is called, the disk is what the model is.
func TestModel(t *testing.T) {
	for seed := range uint64(400) {
		r := rand.New(rand.NewPCG(seed, 2))
		f := disk(t, 40)
		m := &model{quota: 40, dirs: map[string]*modelDir{}}
		var log []string
		for range 120 {
			if r.IntN(8) == 0 { // the disk goes on as its clone, and the other one comes to grief
				old := f
				f = old.Clone()
				spoil(r, old)
			}
			call, got, want := both(r, f, m)
			log = append(log, call)
			if got != want || told(f) != m.told() {
				t.Fatalf("seed %d\n%s\nanswered %v, want %v\nis\n%s\nshould be\n%s", seed, strings.Join(log, "\n"), got, want, told(f), m.told())
			}
		}
	}
}

// spoil does all kinds of harm to a disk.
func spoil(r *rand.Rand, f *vfs.FS) {
	f.Stop(0)
	f.Fail(0, 0)
	for _, n := range f.Image() {
		switch r.IntN(4) {
		case 0:
			f.Write(n.Path, 0, []byte("?"))
		case 1:
			f.Remove(n.Path)
		case 2:
			f.Cut(n.Path, 0)
		}
	}
	f.Mkdir("z")
	f.Crash(numbers(r), numbers(r))
}

// P2.8, P2.10: behind whatever was done a crash leaves what stood fast, and a second one changes nothing.
func TestModelCrashes(t *testing.T) {
	for seed := range uint64(300) {
		r := rand.New(rand.NewPCG(seed, 8))
		f := disk(t, 60, "d", "d!", "e")
		m := &model{quota: 60, dirs: map[string]*modelDir{}}
		for range 60 {
			both(r, f, m)
		}
		f.Stop(0)
		f.Fail(0, 0)
		for _, d := range f.Dirs() {
			fine(t, f.SyncDir(d))
		}
		was := f.Image()
		f.Crash(numbers(r), numbers(r))
		now := f.Image()
		if len(now) != len(was) {
			t.Fatal(seed, len(now), len(was))
		}
		for i, n := range was {
			if now[i].Path != n.Path || now[i].First != n.First || n.Open == 0 && string(now[i].B) != string(n.B) {
				t.Error(seed, n, now[i])
			}
		}
		once := told(f)
		f.Crash(numbers(r), numbers(r))
		same(t, f, once)
	}
}
