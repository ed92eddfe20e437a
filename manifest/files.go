package manifest

import (
	"sediment/api"
	"sediment/wal"
)

func (m *Manifest) path(name string) string { return m.dir + "/" + name }

// inTurn makes steps one behind the other, up to the first one that errs.
func inTurn(steps ...func() api.Errno) api.Errno {
	for _, step := range steps {
		if e := step(); e != api.OK {
			return e
		}
	}
	return api.OK
}

// moveOn goes on in a further file, and takes the one ahead away.
func (m *Manifest) moveOn() api.Errno {
	old := m.path(Name(m.file))
	if e := m.goOn(m.NewNumber()); e != api.OK {
		return e
	}
	// If it stays it is one more file that nobody needs.
	m.disk.Remove(old)
	return api.OK
}

// goOn lets all that is said stand fast in a file of its own, and goes on there.
func (m *Manifest) goOn(number uint64) api.Errno {
	log := wal.New(uint32(number), false)
	b, e := log.Add(record(m.says.whole()))
	if e != api.OK {
		return e
	}
	e = inTurn(
		func() api.Errno { return m.store(Name(number), b) },
		func() api.Errno { return m.store(currentNew, pointer(number)) },
		func() api.Errno { return m.disk.Rename(m.path(currentNew), m.path(current)) },
		func() api.Errno {
			e := m.disk.SyncDir(m.dir)
			// Now nobody knows which file counts behind a crash: nothing may be written to either.
			m.sound = e == api.OK
			return e
		})
	if e != api.OK {
		return e
	}
	m.file, m.log, m.size = number, log, log.At()
	return api.OK
}

// store writes a file anew, and lets its bytes stand fast.
func (m *Manifest) store(name string, b []byte) api.Errno {
	path := m.path(name)
	return inTurn(
		func() api.Errno {
			if e := m.disk.Remove(path); e != api.ErrNone {
				return e
			}
			return api.OK
		},
		func() api.Errno { return m.disk.Create(path) },
		func() api.Errno { return m.disk.Append(path, b) },
		func() api.Errno { return m.disk.Sync(path) })
}

// write lets bytes stand fast behind those of the file.
func (m *Manifest) write(b []byte) api.Errno {
	path := m.path(Name(m.file))
	return inTurn(
		func() api.Errno { return m.disk.Append(path, b) },
		func() api.Errno {
			m.size += len(b)
			return m.disk.Sync(path)
		})
}
