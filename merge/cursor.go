package merge

import (
	"strings"

	"sediment/api"
)

// Cursor goes through a source, to and fro. It keeps nothing under way: a place is a key, from which on the source is asked.
type Cursor struct {
	how    int
	source Source
	at     api.Entry
	stands bool
}

// New is a cursor of a source that stands nowhere.
func New(how int, s Source) *Cursor {
	return &Cursor{how: how, source: s}
}

// ends are the keys from which a source is asked for all that it has, onward and back.
func ends(how int) (first, last api.Key) {
	first = api.Key{Seq: api.MaxSeq, Kind: api.RangeDelete}
	last = api.Key{User: strings.Repeat("\xff", api.MaxKey+1)}
	if how == api.Reverse {
		first.User, last.User = last.User, first.User
	}
	return first, last
}

// First puts the cursor at the first entry, and tells whether there is one, as do all further moves.
func (c *Cursor) First() bool {
	first, _ := ends(c.how)
	return c.Seek(first)
}

// Last puts it at the last entry.
func (c *Cursor) Last() bool {
	_, last := ends(c.how)
	return c.Before(last)
}

// Seek puts it at the first entry that is not ahead of a key.
func (c *Cursor) Seek(k api.Key) bool {
	return c.find(onward(c.how), k, false)
}

// Before puts it at the last entry that is not behind a key.
func (c *Cursor) Before(k api.Key) bool {
	return c.find(backward(c.how), k, false)
}

// Next moves it to the first entry behind the key where it stands.
func (c *Cursor) Next() bool {
	return c.stands && c.find(onward(c.how), c.at.Key, true)
}

// Prev moves it to the last entry ahead of the key where it stands.
func (c *Cursor) Prev() bool {
	return c.stands && c.find(backward(c.how), c.at.Key, true)
}

// find puts the cursor at the first entry that its source tells from a key on, or past all that have this key; nowhere, if there is none.
func (c *Cursor) find(w way, k api.Key, past bool) bool {
	at, is := api.Entry{}, false
	for e := range w.entries(c.source, k) {
		if past && w.order(e.Key, k) <= 0 {
			continue
		}
		at, is = e, true
		break
	}
	c.at, c.stands = at, is
	return is
}

// Entry is where it stands, if it stands somewhere.
func (c *Cursor) Entry() (api.Entry, bool) {
	return c.at, c.stands
}

// Close puts it nowhere.
func (c *Cursor) Close() {
	c.at, c.stands = api.Entry{}, false
}
