package tables

import (
	"sediment/api"
	"sediment/sstable"
)

func (t *Tables) path(number uint64) string { return t.dir + "/" + Name(number) }

func (t *Tables) syncDir() api.Errno { return t.disk.SyncDir(t.dir) }

// inTurn makes calls one behind the other, up to the first one that errs.
func inTurn(calls ...func() api.Errno) api.Errno {
	for _, call := range calls {
		if e := call(); e != api.OK {
			return e
		}
	}
	return api.OK
}

// store lets bytes stand fast in a new file: the bytes ahead of the name, so that a name that stands fast has all of them.
func (t *Tables) store(number uint64, b []byte) api.Errno {
	path, created := t.path(number), false
	e := inTurn(
		func() api.Errno {
			e := t.disk.Create(path)
			created = e == api.OK
			return e
		},
		func() api.Errno { return t.disk.Append(path, b) },
		func() api.Errno { return t.disk.Sync(path) },
		t.syncDir)
	if e != api.OK && created {
		// What is told is why the table was not written, whether this can be done or not.
		t.disk.Remove(path)
	}
	return e
}

// load is the table that is read from its file.
func (t *Tables) load(number uint64) (*sstable.Table, api.Errno) {
	b, e := t.disk.Read(t.path(number))
	if e != api.OK {
		return nil, e
	}
	return sstable.Open(t.how, b)
}
