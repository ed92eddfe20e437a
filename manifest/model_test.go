package manifest_test

import (
	"fmt"
	"math/rand/v2"
	"slices"
	"strings"
	"testing"

	"sediment/api"
	"sediment/edit"
	"sediment/manifest"
	"sediment/vfs"
	"sediment/wal"
)

// saying is what a manifest says, in the chapter's words: families in a list, by their numbers.
type saying struct {
	families  []api.State
	next, seq uint64
}

func (s saying) find(family uint32) (int, bool) {
	return slices.BinarySearchFunc(s.families, family, func(x api.State, n uint32) int { return int(int64(x.Family) - int64(n)) })
}

// made is what is said with an edit made on it.
func made(s saying, e api.Edit) (saying, api.Errno) {
	if _, why := edit.Encode(e); why != api.OK {
		return s, why
	}
	i, is := s.find(e.Family)
	of := e.Make || e.Drop || e.HasLog || len(e.Gone)+len(e.Added) != 0
	var x api.State
	if of {
		if e.Make {
			if is {
				return s, api.ErrThere
			}
			x = api.State{Family: e.Family, Name: e.Name, How: e.How}
		} else if !is {
			return s, api.ErrNone
		} else {
			x = s.families[i]
		}
		v, why := edit.Apply(x.How, x.Version, e)
		if why != api.OK {
			return s, why
		}
		x.Version = v
	}
	if e.HasNext && (e.Next < s.next || e.Next > 4611686018427387904) {
		return s, api.ErrArg
	}
	if e.HasSeq && (e.Seq < s.seq || e.Seq > 72057594037927935) {
		return s, api.ErrArg
	}
	s.families = slices.Clone(s.families)
	if e.Make {
		s.families = slices.Insert(s.families, i, x)
	}
	if e.HasLog {
		x.Log = e.Log
	}
	if of {
		s.families[i] = x
	}
	if e.Drop {
		s.families = slices.Delete(s.families, i, i+1)
	}
	if e.HasNext {
		s.next = e.Next
	}
	if e.HasSeq {
		s.seq = e.Seq
	}
	return s, api.OK
}

// model is a manifest in the chapter's words, on a disk of its own.
type model struct {
	f      *vfs.FS
	s      saying
	file   uint64
	has    bool // whether it has a file
	w      *wal.Writer
	size   int
	broken bool
}

func modelCreate(f *vfs.FS) (*model, api.Errno) {
	l, e := f.List(dir)
	if e != api.OK {
		return nil, e
	}
	if slices.Contains(l, "CURRENT") {
		return nil, api.ErrThere
	}
	m := &model{f: f, s: saying{next: 2}}
	if e := m.goOn(1); e != api.OK {
		return nil, e
	}
	return m, api.OK
}

func modelOpen(f *vfs.FS) (*model, api.Errno) {
	b, e := f.Read(now)
	if e != api.OK {
		return nil, e
	}
	var n uint64
	if k, err := fmt.Sscanf(string(b), "MANIFEST-%d\n", &n); k != 1 || err != nil || string(b) != name(n)+"\n" {
		return nil, api.ErrCorrupt
	}
	b, e = f.Read(path(n))
	if e != api.OK {
		return nil, e
	}
	records, how, _ := wal.Read(b, uint32(n&0xffffffff))
	if how == api.Old || how == api.Spoiled || len(records) == 0 {
		return nil, api.ErrCorrupt
	}
	m := &model{f: f, file: n, has: true}
	for _, x := range records {
		l, is := editsOf(x)
		if !is {
			return nil, api.ErrCorrupt
		}
		for _, y := range l {
			if m.s, e = made(m.s, y); e != api.OK {
				return nil, api.ErrCorrupt
			}
		}
	}
	if m.s.next <= n {
		m.s.next = n + 1
	}
	m.s.next++
	if e := m.goOn(m.s.next - 1); e != api.OK {
		return nil, e
	}
	return m, api.OK
}

// editsOf is a record's edits: it is one just if it is written so again.
func editsOf(b []byte) ([]api.Edit, bool) {
	var l []api.Edit
	many, rest := head(b)
	for i := uint64(0); i < many && rest != nil; i++ {
		var size uint64
		if size, rest = head(rest); rest == nil || size > uint64(len(rest)) {
			return nil, false
		}
		e, why := edit.Decode(rest[:size])
		if why != api.OK {
			return nil, false
		}
		l = append(l, e)
		rest = rest[size:]
	}
	return l, rest != nil && string(recordOf(l...)) == string(b)
}

// head is the number with which bytes begin, and what stands behind it; nil, if there is none.
func head(b []byte) (uint64, []byte) {
	var n uint64
	for i, c := range b {
		if i == 10 {
			break
		}
		n |= uint64(c&127) << (7 * i)
		if c < 128 {
			return n, append([]byte{}, b[i+1:]...)
		}
	}
	return 0, nil
}

func (m *model) whole() []byte {
	var l []api.Edit
	for _, x := range m.s.families {
		e := api.Edit{Family: x.Family, Make: true, Name: x.Name, How: x.How, HasLog: true, Log: x.Log}
		for level := range 7 {
			for _, y := range x.Version.Levels[level] {
				e.Added = append(e.Added, api.Added{Level: level, File: y})
			}
		}
		l = append(l, e)
	}
	return recordOf(append(l, both(m.s.next, m.s.seq))...)
}

// goOn goes on in a file: call by call.
func (m *model) goOn(n uint64) api.Errno {
	f, w := m.f, wal.New(uint32(n&0xffffffff), false)
	b, e := w.Add(m.whole())
	if e != api.OK {
		return e
	}
	for _, x := range []struct {
		p string
		b []byte
	}{{path(n), b}, {next, []byte(name(n) + "\n")}} {
		if _, e := f.Size(x.p); e == api.OK {
			if e := f.Remove(x.p); e != api.OK {
				return e
			}
		}
		if e := f.Create(x.p); e != api.OK {
			return e
		}
		if e := f.Append(x.p, x.b); e != api.OK {
			return e
		}
		if e := f.Sync(x.p); e != api.OK {
			return e
		}
	}
	if e := f.Rename(next, now); e != api.OK {
		return e
	}
	if e := f.SyncDir(dir); e != api.OK {
		m.broken = true
		return e
	}
	if m.has {
		f.Remove(path(m.file))
	}
	m.file, m.has, m.w, m.size = n, true, w, len(b)
	return api.OK
}

func (m *model) Log(l []api.Edit) api.Errno {
	if m.broken {
		return api.ErrBroken
	}
	if len(l) == 0 || len(l) > 1024 {
		return api.ErrArg
	}
	s := m.s
	for _, e := range l {
		var why api.Errno
		if s, why = made(s, e); why != api.OK {
			return why
		}
		if e.HasNext && e.Next > 1152921504606846976 {
			return api.ErrArg
		}
	}
	b, why := m.w.Add(recordOf(append(slices.Clone(l), both(s.next, s.seq))...))
	if why != api.OK {
		return why
	}
	m.broken = true
	if why = m.f.Append(path(m.file), b); why != api.OK {
		return why
	}
	m.size += len(b)
	if why = m.f.Sync(path(m.file)); why != api.OK {
		return why
	}
	m.broken, m.s = false, s
	return api.OK
}

func (m *model) Roll() api.Errno {
	if m.broken {
		return api.ErrBroken
	}
	m.s.next++
	return m.goOn(m.s.next - 1)
}

func (m *model) NewNumber() uint64 {
	m.s.next++
	return m.s.next - 1
}

func (m *model) Families() []api.State { return m.s.families }

func (m *model) State(family uint32) (api.State, api.Errno) {
	for _, x := range m.s.families {
		if x.Family == family {
			return x, api.OK
		}
	}
	return api.State{}, api.ErrNone
}

func (m *model) Live() []uint64 {
	there := map[uint64]bool{}
	var l []uint64
	for _, x := range m.s.families {
		for _, files := range x.Version.Levels {
			for _, y := range files {
				if !there[y.Number] {
					l = append(l, y.Number)
				}
				there[y.Number] = true
			}
		}
	}
	slices.Sort(l)
	return l
}

func (m *model) Next() uint64 { return m.s.next }
func (m *model) Seq() uint64  { return m.s.seq }
func (m *model) File() uint64 { return m.file }
func (m *model) Size() int    { return m.size }
func (m *model) Broken() bool { return m.broken }

// pair is a manifest and its model, each on a disk of its own.
type pair struct {
	f, g *vfs.FS
	m    *manifest.Manifest
	o    *model
}

// anew creates or opens both: the answers. What errs leaves both as they were.
func (p *pair) anew(create bool) (string, string) {
	what, call, modelCall := "open", manifest.Open, modelOpen
	if create {
		what, call, modelCall = "create", manifest.Create, modelCreate
	}
	m, e := call(p.f, dir)
	o, e2 := modelCall(p.g)
	if m != nil && o != nil {
		p.m, p.o = m, o
	}
	return fmt.Sprintf("%s %t %d", what, m != nil, e), fmt.Sprintf("%s %t %d", what, o != nil, e2)
}

// act does something with a manifest or its disk, by chance, so that the same seed does the same with others: what was answered.
func act(m manifester, f *vfs.FS, r *rand.Rand) string {
	switch r.IntN(20) {
	case 0:
		f.Fail(r.IntN(14), r.IntN(4))
		return "fail"
	case 1:
		f.Stop(r.IntN(25))
		return "stop"
	case 2:
		f.Fail(0, 0)
		f.Stop(0)
		return "well"
	case 3:
		return fmt.Sprintf("strange %d", f.Create([]string{path(m.Next()), next, path(m.Next() + 1)}[r.IntN(3)]))
	case 4, 5:
		return fmt.Sprintf("roll %d", m.Roll())
	case 6, 7:
		return fmt.Sprint("number ", m.NewNumber())
	}
	l := anyEdits(r, m)
	return fmt.Sprintf("log %+v: %d", l, m.Log(l))
}

// harm does something to a disk that no promise takes back.
func harm(f *vfs.FS, r *rand.Rand, file uint64) string {
	p := []string{path(file), now}[r.IntN(2)]
	switch r.IntN(8) {
	case 0:
		return fmt.Sprint("flip ", f.Flip(p, r.IntN(3000)))
	case 1:
		return fmt.Sprint("cut ", f.Cut(p, r.IntN(300)))
	case 2:
		return fmt.Sprint("gone ", f.Remove(p))
	}
	f.Crash(numbers(r), numbers(r))
	return "crash"
}

// All promises: whatever is done, and whatever the disk does, a manifest tells and leaves on the disk what its model does.
func TestAsTheModel(t *testing.T) {
	done := map[string]int{}
	for seed := range uint64(300) {
		r := chance(seed)
		quota := 1 << 20
		if r.IntN(5) == 0 {
			quota = 1200
		}
		p := &pair{f: disk(t, quota), g: disk(t, quota)}
		p.m, p.o = created(t, p.f), nil
		p.o, _ = modelCreate(p.g)
		for step := range 100 {
			again := r.Uint64()
			var did, want string
			switch r.IntN(16) {
			case 0:
				did, want = harm(p.f, chance(again), p.m.File()), harm(p.g, chance(again), p.o.File())
			case 1, 2:
				did, want = p.anew(r.IntN(6) == 0)
			default:
				did, want = act(p.m, p.f, chance(again)), act(p.o, p.g, chance(again))
			}
			words := strings.Fields(did)
			done[words[0]+" "+words[len(words)-1]]++
			if did != want {
				t.Fatalf("seed %d, step %d: %s, want %s", seed, step, short(did), short(want))
			}
			if got, want := tells(p.m), tells(p.o); got != want {
				t.Fatalf("seed %d, step %d: behind %s it tells\n%s\nwant\n%s", seed, step, short(did), short(got), short(want))
			}
			if got, want := look(p.f), look(p.g); got != want {
				t.Fatalf("seed %d, step %d: behind %s the disk is\n%s\nwant\n%s", seed, step, short(did), got, want)
			}
		}
	}
	for _, x := range []string{
		"log 0", "log 1", "log 6", "log 7", "log 130", "log 140", "log 20", "log 21", "log 22", "roll 0", "roll 20", "roll 21", "roll 22", "roll 140",
		"open 0", "open 3", "open 6", "open 20", "open 21", "open 22", "create 7",
	} {
		if done[x] < 10 {
			t.Errorf("%s: %d times", x, done[x])
		}
	}
}
