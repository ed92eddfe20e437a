package edit_test

import (
	"bytes"
	"math"
	"slices"
	"testing"

	"sediment/api"
	"sediment/edit"
)

// P13.1: bytes that are written out.
func TestEncodeBytes(t *testing.T) {
	ab := api.File{Number: 300, Size: 1 << 14, Entries: 7, Ranges: 0, Smallest: key("a", 9, api.Put), Largest: key("", api.MaxSeq, api.RangeDelete)}
	for _, c := range []struct {
		e    api.Edit
		want string
	}{
		{api.Edit{}, "\x01\x00"},
		{api.Edit{HasSeq: true, Seq: 5}, "\x01\x00\x06\x05"},
		{api.Edit{Family: 300}, "\x01\xac\x02"},
		{api.Edit{Family: math.MaxUint32}, "\x01\xff\xff\xff\xff\x0f"},
		{api.Edit{Make: true, Name: "f"}, "\x01\x00\x02\x00\x01f"},
		{api.Edit{Make: true, Name: "fa\x00\xff", How: 1}, "\x01\x00\x02\x01\x04fa\x00\xff"},
		{api.Edit{Make: true, Name: text(64)}, "\x01\x00\x02\x00\x40" + text(64)},
		{api.Edit{Family: 7, Drop: true}, "\x01\x07\x03"},
		{api.Edit{HasLog: true}, "\x01\x00\x04\x00"},
		{api.Edit{HasNext: true, Next: 128}, "\x01\x00\x05\x80\x01"},
		{api.Edit{HasSeq: true, Seq: math.MaxUint64}, "\x01\x00\x06\xff\xff\xff\xff\xff\xff\xff\xff\xff\x01"},
		{api.Edit{HasLog: true, Log: 1, HasNext: true, Next: 2, HasSeq: true, Seq: 3}, "\x01\x00\x04\x01\x05\x02\x06\x03"},
		{takes(gone(0, 0), gone(6, 200)), "\x01\x00\x07\x00\x00\x07\x06\xc8\x01"},
		{adds(added(2, ab)), "\x01\x00\x08\x02\xac\x02\x80\x80\x01\x07\x00\x09a\x01\x09\x00\x00\x00\x00\x00\x00\x08\x02\xff\xff\xff\xff\xff\xff\xff"},
		{api.Edit{Family: 1, Make: true, Name: "g", HasLog: true, Log: 4, HasNext: true, Next: 5, HasSeq: true, Seq: 6, Gone: []api.Gone{gone(1, 2)}, Added: []api.Added{added(0, api.File{})}},
			"\x01\x01\x02\x00\x01g\x04\x04\x05\x05\x06\x06\x07\x01\x02\x08\x00\x00\x00\x00\x00\x08\x00\x00\x00\x00\x00\x00\x00\x00\x08\x00\x00\x00\x00\x00\x00\x00\x00"},
		// What is not said plays no part.
		{api.Edit{Name: text(65), How: 9}, "\x01\x00"},
		{api.Edit{Drop: true, Name: text(1 << 16), How: -1}, "\x01\x00\x03"},
		{api.Edit{Log: 1, Next: 2, Seq: math.MaxUint64}, "\x01\x00"},
		{api.Edit{HasNext: true, Next: 2, Log: 1, Seq: 3}, "\x01\x00\x05\x02"},
	} {
		if b, why := edit.Encode(c.e); string(b) != c.want || why != api.OK {
			t.Errorf("Encode(%s) = %x, %d, want %x", short(c.e), b, why, c.want)
		}
		if e, why := edit.Decode([]byte(c.want)); !exactly(e, bare(c.e)) || why != api.OK {
			t.Errorf("Decode(%x) = %s, %d, want %s", c.want, short(e), why, short(c.e))
		}
	}
}

// P13.1: each error, and which comes first.
func TestEncodeRefuses(t *testing.T) {
	bad := added(7, file(1, "a", "b"))
	long := added(1, between(1, key(text(1025), 1, 1), key("b", 1, 3)))
	kind := added(1, between(1, key("a", 1, 1), key("b", 1, 3)))
	for _, c := range []struct {
		name string
		e    api.Edit
		want api.Errno
	}{
		{"both", api.Edit{Make: true, Drop: true, Name: "f"}, api.ErrArg},
		{"both ahead of a long name", api.Edit{Make: true, Drop: true, Name: text(65)}, api.ErrArg},
		{"both ahead of too many", api.Edit{Make: true, Drop: true, Name: "f", Gone: manyGone(1025)}, api.ErrArg},
		{"no name", api.Edit{Make: true}, api.ErrArg},
		{"longest name", api.Edit{Make: true, Name: text(64)}, api.OK},
		{"a name too long", api.Edit{Make: true, Name: text(65)}, api.ErrLong},
		{"a name far too long", api.Edit{Make: true, Name: text(1 << 16)}, api.ErrLong},
		{"a name too long ahead of how", api.Edit{Make: true, Name: text(65), How: 2}, api.ErrLong},
		{"no name ahead of too many", api.Edit{Make: true, Gone: manyGone(1025)}, api.ErrArg},
		{"how ahead of too many", api.Edit{Make: true, Name: "f", How: 2, Gone: manyGone(1025)}, api.ErrArg},
		{"a name too long ahead of a level", api.Edit{Make: true, Name: text(65), Gone: []api.Gone{gone(7, 1)}}, api.ErrLong},
		{"most gone", takes(manyGone(1024)...), api.OK},
		{"too many gone", takes(manyGone(1025)...), api.ErrLong},
		{"most added", adds(manyAdded(1024)...), api.OK},
		{"too many added", adds(manyAdded(1025)...), api.ErrLong},
		{"most of both", api.Edit{Gone: manyGone(1000), Added: manyAdded(24)}, api.OK},
		{"too many of both", api.Edit{Gone: manyGone(1000), Added: manyAdded(25)}, api.ErrLong},
		{"too many of both", api.Edit{Gone: manyGone(1), Added: manyAdded(1024)}, api.ErrLong},
		{"too many of a drop", api.Edit{Drop: true, Gone: manyGone(1025)}, api.ErrLong},
		{"too many ahead of a level", takes(append(manyGone(1024), gone(7, 1))...), api.ErrLong},
		{"a level at the last place", takes(append(manyGone(1023), gone(7, 1))...), api.ErrArg},
		{"gone ahead of added", api.Edit{Gone: []api.Gone{gone(7, 1)}, Added: []api.Added{long}}, api.ErrArg},
		{"level ahead of its key", adds(added(7, long.File)), api.ErrArg},
		{"level ahead of the next one's key", adds(bad, long), api.ErrArg},
		{"key ahead of the next one's level", adds(long, bad), api.ErrLong},
		{"smallest ahead of largest", adds(long), api.ErrLong},
		{"largest", adds(kind), api.ErrArg},
		{"largest ahead of the next one", adds(kind, long), api.ErrArg},
		{"smallest behind largest", adds(added(1, file(1, "b", "a"))), api.OK},
		{"one number twice", adds(added(1, file(1, "a", "b")), added(1, file(1, "a", "b"))), api.OK},
	} {
		b, why := edit.Encode(c.e)
		if why != c.want || why != api.OK && len(b) != 0 || why == api.OK && string(b) != bytesOf(c.e) {
			t.Errorf("%s: %d bytes, %d, want %d", c.name, len(b), why, c.want)
		}
		// An edit that can't be is refused by Apply likewise.
		if v, why := edit.Apply(api.Bytewise, api.Version{}, c.e); c.want != api.OK && (why != c.want || !same(v, api.Version{})) {
			t.Errorf("%s: Apply: %s, %d, want %d", c.name, short(v), why, c.want)
		}
	}
}

// P13.1: each wrong how, level and key, wherever it stands.
func TestEncodeRefusesEach(t *testing.T) {
	refuses := func(e api.Edit, want api.Errno) {
		t.Helper()
		if b, why := edit.Encode(e); len(b) != 0 || why != want {
			t.Errorf("Encode(%s): %d bytes, %d, want %d", short(e), len(b), why, want)
		}
	}
	for _, how := range wrongHows() {
		refuses(api.Edit{Make: true, Name: "f", How: how}, api.ErrArg)
	}
	good := added(1, file(1, "a", "b"))
	for _, level := range wrongLevels() {
		refuses(takes(gone(level, 1)), api.ErrArg)
		refuses(takes(gone(6, 1), gone(0, 1), gone(level, 1)), api.ErrArg)
		refuses(adds(added(level, file(1, "a", "b"))), api.ErrArg)
		refuses(adds(good, added(level, file(1, "a", "b"))), api.ErrArg)
	}
	for k, want := range wrongKeys() {
		refuses(adds(good, added(0, between(1, k, key("b", 1, 1)))), want)
		refuses(adds(good, added(0, between(1, key("a", 1, 1), k))), want)
	}
	for level := range 7 {
		widest := added(level, between(math.MaxUint64, key(text(1024), api.MaxSeq, 2), key(text(1024), 0, 0)))
		e := api.Edit{Gone: []api.Gone{gone(level, math.MaxUint64)}, Added: []api.Added{widest}}
		if b, why := edit.Encode(e); string(b) != bytesOf(e) || why != api.OK {
			t.Errorf("level %d: %d bytes, %d", level, len(b), why)
		}
	}
}

// P13.1, P13.6
func TestThereAndBack(t *testing.T) {
	r := chance(1)
	for range 20000 {
		e := anyEdit(r)
		b, why := edit.Encode(e)
		if string(b) != bytesOf(e) || why != api.OK {
			t.Fatalf("Encode(%s) = %x, %d", short(e), b, why)
		}
		back, why := edit.Decode(b)
		if !exactly(back, bare(e)) || !edit.Same(back, e) || why != api.OK {
			t.Fatalf("Decode(Encode(%s)) = %s, %d", short(e), short(back), why)
		}
	}
}

// P13.6: the greatest edits.
func TestMostThereAndBack(t *testing.T) {
	wide := added(6, between(math.MaxUint64, key(text(1024), api.MaxSeq, 2), key(text(1024), api.MaxSeq, 2)))
	for _, e := range []api.Edit{
		adds(slices.Repeat([]api.Added{wide}, 1024)...),
		takes(slices.Repeat([]api.Gone{gone(6, math.MaxUint64)}, 1024)...),
		{Gone: manyGone(512), Added: manyAdded(512)},
	} {
		b, why := edit.Encode(e)
		if string(b) != bytesOf(e) || why != api.OK {
			t.Fatalf("%d bytes, %d", len(b), why)
		}
		if back, why := edit.Decode(b); !exactly(back, e) || why != api.OK {
			t.Errorf("%d gone, %d added, %d", len(back.Gone), len(back.Added), why)
		}
	}
}

// P13.1: Same hangs on each thing that is said, and on nothing else.
func TestSame(t *testing.T) {
	base := func() api.Edit {
		return api.Edit{Family: 1, Make: true, Name: "f", How: 1, HasLog: true, HasNext: true, HasSeq: true, Log: 1, Next: 2, Seq: 3,
			Gone: []api.Gone{gone(1, 2), gone(2, 3)}, Added: []api.Added{added(3, file(4, "a", "b")), added(4, file(5, "c", "d"))}}
	}
	for i, change := range []func(e *api.Edit){
		func(e *api.Edit) { e.Family = 2 },
		func(e *api.Edit) { e.Make = false },
		func(e *api.Edit) { e.Drop = true },
		func(e *api.Edit) { e.Name = "g" },
		func(e *api.Edit) { e.How = 0 },
		func(e *api.Edit) { e.HasLog = false },
		func(e *api.Edit) { e.HasNext = false },
		func(e *api.Edit) { e.HasSeq = false },
		func(e *api.Edit) { e.Log++ },
		func(e *api.Edit) { e.Next++ },
		func(e *api.Edit) { e.Seq++ },
		func(e *api.Edit) { e.Gone = nil },
		func(e *api.Edit) { e.Gone = e.Gone[:1] },
		func(e *api.Edit) { e.Gone[1].Level++ },
		func(e *api.Edit) { e.Gone[0].Number++ },
		func(e *api.Edit) { slices.Reverse(e.Gone) },
		func(e *api.Edit) { e.Added = nil },
		func(e *api.Edit) { e.Added = e.Added[1:] },
		func(e *api.Edit) { e.Added[0].Level++ },
		func(e *api.Edit) { e.Added[1].File.Number++ },
		func(e *api.Edit) { e.Added[1].File.Size++ },
		func(e *api.Edit) { e.Added[1].File.Entries++ },
		func(e *api.Edit) { e.Added[1].File.Ranges++ },
		func(e *api.Edit) { e.Added[1].File.Smallest.User = "x" },
		func(e *api.Edit) { e.Added[1].File.Smallest.Seq++ },
		func(e *api.Edit) { e.Added[0].File.Smallest.Kind = 0 },
		func(e *api.Edit) { e.Added[0].File.Largest.User = "x" },
		func(e *api.Edit) { e.Added[0].File.Largest.Seq++ },
		func(e *api.Edit) { e.Added[0].File.Largest.Kind = 0 },
		func(e *api.Edit) { slices.Reverse(e.Added) },
	} {
		a, b := base(), base()
		if !edit.Same(a, b) {
			t.Error("an edit is not the same as itself")
		}
		change(&b)
		if edit.Same(a, b) || edit.Same(b, a) {
			t.Errorf("change %d: the same", i)
		}
	}
}

// P13.1: that something is said is a difference, also if it is nothing that is said.
func TestSameOfNothingSaid(t *testing.T) {
	for _, e := range []api.Edit{{HasLog: true}, {HasNext: true}, {HasSeq: true}, {Drop: true}, {Make: true}, {Gone: []api.Gone{{}}}, {Added: []api.Added{{}}}} {
		if edit.Same(e, api.Edit{}) || edit.Same(api.Edit{}, e) || !edit.Same(e, e) {
			t.Errorf("%s", short(e))
		}
	}
}

// P13.1: what is not said plays no part.
func TestSameInWhatIsSaid(t *testing.T) {
	for _, c := range [][2]api.Edit{
		{{Name: "f", How: 1}, {Name: "g", How: 7}},
		{{Drop: true, Name: "f", How: 1}, {Drop: true}},
		{{Log: 1, Next: 2, Seq: 3}, {}},
		{{HasLog: true, Log: 5, Next: 2, Seq: 3}, {HasLog: true, Log: 5}},
		{{HasNext: true, Next: 5, Log: 2, Seq: 3}, {HasNext: true, Next: 5}},
		{{HasSeq: true, Seq: 5, Next: 2, Log: 3}, {HasSeq: true, Seq: 5}},
		{{Gone: []api.Gone{}, Added: []api.Added{}}, {}},
		{{Gone: make([]api.Gone, 0, 3)}, {Added: make([]api.Added, 0, 3)}},
	} {
		if !edit.Same(c[0], c[1]) || !edit.Same(c[1], c[0]) {
			t.Errorf("%s, %s: not the same", short(c[0]), short(c[1]))
		}
	}
	// Edits that can't be are held against each other, too.
	both := api.Edit{Make: true, Drop: true, How: -1, Gone: []api.Gone{gone(-1, 1)}}
	other := api.Edit{Make: true, Drop: true, How: -2, Gone: []api.Gone{gone(-1, 1)}}
	if !edit.Same(both, both) || edit.Same(both, other) {
		t.Error("edits that can't be")
	}
}

// P13.1: edits are the same just if their bytes are.
func TestSameAsBytes(t *testing.T) {
	r := chance(2)
	for range 20000 {
		a := anyEdit(r)
		b := a
		if r.IntN(3) == 0 {
			b = anyEdit(r)
		}
		switch r.IntN(8) {
		case 0:
			b.Log = anyNumber(r)
		case 1:
			b.Next = anyNumber(r)
		case 2:
			b.Seq = anyNumber(r)
		case 3:
			b.Name = "x"
		case 4:
			b.How = 1 - b.How
		case 5:
			b.Added = slices.Clone(b.Added)
		case 6:
			b.Gone = append(slices.Clone(b.Gone), gone(r.IntN(7), 1))
		}
		x, _ := edit.Encode(a)
		y, _ := edit.Encode(b)
		if edit.Same(a, b) != bytes.Equal(x, y) {
			t.Fatalf("Same(%s, %s) = %t", short(a), short(b), edit.Same(a, b))
		}
	}
}
