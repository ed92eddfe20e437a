package merge

import (
	"cmp"
	"iter"

	"sediment/api"
	"sediment/codec"
)

// way is how sources are gone through, onward or back: what they are asked, and what comes ahead, of keys and of sources by their places.
type way struct {
	ask   func(s Source, from api.Key) iter.Seq[api.Entry]
	order func(a, b api.Key) int
	place func(a, b int) int
}

// onward goes in order.
func onward(how int) way {
	return way{
		ask:   func(s Source, from api.Key) iter.Seq[api.Entry] { return s.All(from) },
		order: func(a, b api.Key) int { return codec.Order(how, a, b) },
		place: func(a, b int) int { return cmp.Compare(a, b) },
	}
}

// backward goes the other way about.
func backward(how int) way {
	return way{
		ask:   func(s Source, from api.Key) iter.Seq[api.Entry] { return s.Back(from) },
		order: func(a, b api.Key) int { return codec.Order(how, b, a) },
		place: func(a, b int) int { return cmp.Compare(b, a) },
	}
}

// entries is what a source tells from a key on. A source that is none has nothing, nor has one that answers no list.
func (w way) entries(s Source, from api.Key) iter.Seq[api.Entry] {
	if s != nil {
		if l := w.ask(s, from); l != nil {
			return l
		}
	}
	return func(func(api.Entry) bool) {}
}
