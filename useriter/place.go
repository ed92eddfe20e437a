package useriter

import (
	"math"
	"strings"

	"sediment/api"
	"sediment/codec"
)

// ahead is a key ahead of all entries of a user key, behind all those of the user keys ahead of it. It is no entry's, so that nothing is told from it on in either way that has to be left out.
func ahead(user string) api.Key {
	return api.Key{User: user, Seq: math.MaxUint64, Kind: math.MaxInt}
}

// behind is a key behind all entries of a user key, likewise.
func behind(user string) api.Key {
	return api.Key{User: user, Kind: math.MinInt}
}

// newest is a key ahead of all entries of a user key that are not later than what is seen, behind those that are: these need not be read.
func (t *Iter) newest(user string) api.Key {
	return api.Key{User: user, Seq: t.seq, Kind: math.MaxInt}
}

// later is the one of two keys that comes behind the other one.
func (t *Iter) later(a, b api.Key) api.Key {
	if codec.Order(t.how, a, b) < 0 {
		return b
	}
	return a
}

// earlier is the one of two keys that comes ahead of the other one.
func (t *Iter) earlier(a, b api.Key) api.Key {
	if codec.Order(t.how, a, b) > 0 {
		return b
	}
	return a
}

// low is a key from which on all entries within the bounds are.
func (t *Iter) low() api.Key {
	switch {
	case t.bounds.HasLow:
		return ahead(t.bounds.Low)
	case t.how == api.Reverse:
		return ahead(greatest())
	}
	return ahead("")
}

// high is a key that no entry within the bounds is behind.
func (t *Iter) high() api.Key {
	switch {
	case t.bounds.HasHigh:
		return ahead(t.bounds.High)
	case t.how == api.Reverse:
		return behind("")
	}
	return behind(greatest())
}

// greatest is bytes that are greater than those of every user key.
func greatest() string {
	return strings.Repeat("\xff", api.MaxKey+1)
}
