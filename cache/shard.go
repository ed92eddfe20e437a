package cache

// entry is a value under its key. It is in its shard, or kept by its pins alone; without either nothing knows it any more.
type entry[V any] struct {
	key           string
	value         V
	charge        uint64
	pins          int
	ahead, behind *entry[V] // of one that waits: its neighbours
}

// shard is the entries of some of the keys. Those without pins wait, and are all in.
type shard[V any] struct {
	in           map[string]*entry[V]
	waits        queue[V]
	used, pinned total // the charges of all entries, of those with pins
}

// exceeds tells whether more is used than there is room, together with so much that is still to come.
func (s *shard[V]) exceeds(coming, room uint64) bool { return plus(coming, s.used.told()) > room }

// makeRoom lets those that wait go, as long as that is needed.
func (s *shard[V]) makeRoom(coming, room uint64) {
	for s.waits.first != nil && s.exceeds(coming, room) {
		s.takeOut(s.waits.first)
	}
}

// put takes a new entry in, with a pin, in the place of one of the same key.
func (s *shard[V]) put(e *entry[V]) {
	if old, is := s.in[e.key]; is {
		s.takeOut(old)
	}
	s.in[e.key] = e
	s.used.add(e.charge)
	s.pinned.add(e.charge)
	e.pins = 1
}

// takeOut takes out an entry that is in.
func (s *shard[V]) takeOut(e *entry[V]) {
	delete(s.in, e.key)
	if e.pins == 0 {
		s.waits.leave(e)
		s.used.take(e.charge)
	}
}

// pin gives an entry that is in a pin more.
func (s *shard[V]) pin(e *entry[V]) {
	if e.pins == 0 {
		s.waits.leave(e)
		s.pinned.add(e.charge)
	}
	e.pins++
}

// unpin takes one of its pins from an entry, in a shard of so much room.
func (s *shard[V]) unpin(e *entry[V], room uint64) {
	e.pins--
	if e.pins > 0 {
		return
	}
	s.pinned.take(e.charge)
	// Under its key another one may be in by now.
	if s.in[e.key] == e {
		s.waits.join(e)
		s.makeRoom(0, room)
	} else {
		s.used.take(e.charge)
	}
}
