package edit_test

import (
	"encoding/binary"
	"math"
	"slices"
	"strings"
	"testing"

	"sediment/api"
	"sediment/edit"
)

// refuses wants bytes that are no edit's.
func refuses(t *testing.T, name, b string, want api.Errno) {
	t.Helper()
	if e, why := edit.Decode([]byte(b)); !isZero(e) || why != want {
		t.Errorf("%s: Decode(%.40x) = %s, %d, want %d", name, b, short(e), why, want)
	}
}

// reads wants bytes that are an edit's, which is written as it was.
func reads(t *testing.T, name, b string) {
	t.Helper()
	e, why := edit.Decode([]byte(b))
	if why != api.OK || bytesOf(e) != b {
		t.Errorf("%s: Decode(%.40x) = %s, %d", name, b, short(e), why)
	}
}

// P13.1
func TestDecodeRefuses(t *testing.T) {
	const f = "\x01\x00"
	for _, c := range []struct {
		name, b string
		want    api.Errno
	}{
		{"nothing", "", api.ErrShort},
		{"no family", "\x01", api.ErrShort},
		{"within the family", "\x01\x80", api.ErrShort},
		{"within a long family", "\x01\x80\x80\x80\x80\x80\x80", api.ErrShort},
		{"a family with a byte too many", "\x01\x80\x00", api.ErrCorrupt},
		{"a family of 2^32", "\x01\x80\x80\x80\x80\x10", api.ErrCorrupt},
		{"a family of 2^63", "\x01\x80\x80\x80\x80\x80\x80\x80\x80\x80\x01", api.ErrCorrupt},
		{"a family of 2^64", "\x01\x80\x80\x80\x80\x80\x80\x80\x80\x80\x02", api.ErrCorrupt},
		{"two families", f + "\x01\x00", api.ErrCorrupt},
		{"two families, within the second one", f + "\x01", api.ErrCorrupt},
		{"number 0", f + "\x00", api.ErrCorrupt},
		{"make without how", f + "\x02", api.ErrShort},
		{"within how", f + "\x02\x80", api.ErrShort},
		{"how 2", f + "\x02\x02", api.ErrCorrupt},
		{"how 2, whole", f + "\x02\x02\x01f", api.ErrCorrupt},
		{"how of 2^32", f + "\x02\x80\x80\x80\x80\x10\x01f", api.ErrCorrupt},
		{"how with a byte too many", f + "\x02\x81\x00\x01f", api.ErrCorrupt},
		{"no length", f + "\x02\x01", api.ErrShort},
		{"within the length", f + "\x02\x01\x80", api.ErrShort},
		{"length 0", f + "\x02\x00\x00", api.ErrCorrupt},
		{"length 0, and more", f + "\x02\x00\x00\x04\x01", api.ErrCorrupt},
		{"no name", f + "\x02\x00\x01", api.ErrShort},
		{"a part of the name", f + "\x02\x00\x03fg", api.ErrShort},
		{"the longest name, a part", f + "\x02\x00\x40" + text(63), api.ErrShort},
		{"length 65", f + "\x02\x00\x41", api.ErrCorrupt},
		{"length 65, whole", f + "\x02\x00\x41" + text(65), api.ErrCorrupt},
		{"length of 2^63", f + "\x02\x00\x80\x80\x80\x80\x80\x80\x80\x80\x80\x01", api.ErrCorrupt},
		{"length with a byte too many", f + "\x02\x00\x81\x00f", api.ErrCorrupt},
		{"two makes", f + "\x02\x00\x01f\x02\x00\x01f", api.ErrCorrupt},
		{"two makes, cut off", f + "\x02\x00\x01f\x02", api.ErrCorrupt},
		{"make and drop", f + "\x02\x00\x01f\x03", api.ErrCorrupt},
		{"drop and make", f + "\x03\x02\x00\x01f", api.ErrCorrupt},
		{"two drops", f + "\x03\x03", api.ErrCorrupt},
		{"no log", f + "\x04", api.ErrShort},
		{"within the log", f + "\x04\xff", api.ErrShort},
		{"log with a byte too many", f + "\x04\x80\x00", api.ErrCorrupt},
		{"log of 2^64", f + "\x04\x80\x80\x80\x80\x80\x80\x80\x80\x80\x02", api.ErrCorrupt},
		{"two logs", f + "\x04\x01\x04\x01", api.ErrCorrupt},
		{"no next", f + "\x05", api.ErrShort},
		{"next of 2^64", f + "\x05\xff\xff\xff\xff\xff\xff\xff\xff\xff\x02", api.ErrCorrupt},
		{"two nexts", f + "\x05\x01\x05", api.ErrCorrupt},
		{"log behind next", f + "\x05\x01\x04\x01", api.ErrCorrupt},
		{"no seq", f + "\x06", api.ErrShort},
		{"seq of 2^64", f + "\x06\xff\xff\xff\xff\xff\xff\xff\xff\xff\x7f", api.ErrCorrupt},
		{"two seqs", f + "\x06\x05\x06\x05", api.ErrCorrupt},
		{"next behind seq", f + "\x06\x05\x05\x01", api.ErrCorrupt},
		{"gone without level", f + "\x07", api.ErrShort},
		{"level 7", f + "\x07\x07", api.ErrCorrupt},
		{"level 7, whole", f + "\x07\x07\x01", api.ErrCorrupt},
		{"level of 2^32", f + "\x07\x80\x80\x80\x80\x10\x01", api.ErrCorrupt},
		{"level of 2^64 - 1", f + "\x07\xff\xff\xff\xff\xff\xff\xff\xff\xff\x01\x01", api.ErrCorrupt},
		{"level with a byte too many", f + "\x07\x86\x00\x01", api.ErrCorrupt},
		{"gone without number", f + "\x07\x06", api.ErrShort},
		{"within the number", f + "\x07\x06\x80", api.ErrShort},
		{"seq behind gone", f + "\x07\x06\x01\x06\x05", api.ErrCorrupt},
		{"gone behind added", f + addedBytes(added(0, api.File{})) + goneBytes(gone(0, 0)), api.ErrCorrupt},
		{"make behind added", f + addedBytes(added(0, api.File{})) + "\x02\x00\x01f", api.ErrCorrupt},
		{"added without level", f + "\x08", api.ErrShort},
		{"added, level 7", f + "\x08\x07", api.ErrCorrupt},
		{"added, level with a byte too many", f + "\x08\x80\x00", api.ErrCorrupt},
	} {
		refuses(t, c.name, c.b, c.want)
	}
	for first := range 256 {
		if first != 1 {
			refuses(t, "another first", string([]byte{byte(first)}), api.ErrCorrupt)
			refuses(t, "another first", string([]byte{byte(first), 0, 6, 5}), api.ErrCorrupt)
		}
		if first > 8 {
			refuses(t, "none of these", f+string([]byte{byte(first)}), api.ErrCorrupt)
			refuses(t, "none of these", f+"\x06\x05"+string([]byte{byte(first), 1}), api.ErrCorrupt)
		}
	}
}

// P13.1: a key in an Added.
func TestDecodeKeys(t *testing.T) {
	for _, second := range []bool{false, true} {
		head := "\x01\x00\x08\x01\x02\x03\x04\x05"
		tail := keyBytes(key("z", 1, 1))
		if second {
			head, tail = head+keyBytes(key("a", 1, 1)), ""
		}
		put := string(binary.LittleEndian.AppendUint64(nil, 5<<8|1))
		reads(t, "shortest", head+"\x08"+put+tail)
		reads(t, "longest", head+"\x88\x08"+text(1024)+put+tail)
		refuses(t, "no length", head, api.ErrShort)
		refuses(t, "within the length", head+"\x88", api.ErrShort)
		refuses(t, "too long", head+"\x89\x08"+text(1025)+put+tail, api.ErrCorrupt)
		refuses(t, "too long, not there", head+"\x89\x08", api.ErrCorrupt)
		refuses(t, "far too long", head+"\xff\xff\xff\xff\xff\xff\xff\xff\xff\x01", api.ErrCorrupt)
		refuses(t, "a byte too many", head+"\x88\x00"+put+tail, api.ErrCorrupt)
		refuses(t, "longest, a part", head+"\x88\x08"+text(1024)+put[:7], api.ErrShort)
		refuses(t, "not there", head+"\x08", api.ErrShort)
		refuses(t, "not there at all", head+"\x00", api.ErrCorrupt)
		for n := 1; n < 8; n++ {
			length := string([]byte{byte(n)})
			refuses(t, "too short", head+length+put[:n]+tail, api.ErrCorrupt)
			refuses(t, "too short, and a part", head+length+put[:n-1], api.ErrShort)
			refuses(t, "a part", head+"\x08"+put[:n], api.ErrShort)
		}
		for kind := 3; kind < 256; kind++ {
			refuses(t, "kind", head+"\x09k"+string([]byte{byte(kind)})+put[1:]+tail, api.ErrCorrupt)
		}
		for kind := range 3 {
			reads(t, "kind", head+"\x09k"+string([]byte{byte(kind)})+"\xff\xff\xff\xff\xff\xff\xff"+tail)
		}
	}
}

// P13.1: the one too many is told at its number, whatever stands behind it.
func TestDecodeMany(t *testing.T) {
	f := file(1, "a", "b")
	g, a := goneBytes(gone(1, 2)), addedBytes(added(3, f))
	const head = "\x01\x00"
	for _, gones := range []int{0, 1, 512, 1023, 1024} {
		most := head + strings.Repeat(g, gones) + strings.Repeat(a, 1024-gones)
		reads(t, "most", most)
		refuses(t, "one too many", most+a, api.ErrCorrupt)
		refuses(t, "one too many, cut off", most+"\x08", api.ErrCorrupt)
		refuses(t, "one too many, within", most+a[:5], api.ErrCorrupt)
		refuses(t, "cut off in the last one", most[:len(most)-1], api.ErrShort)
	}
	refuses(t, "one too many gone", head+strings.Repeat(g, 1025), api.ErrCorrupt)
	refuses(t, "one too many gone, cut off", head+strings.Repeat(g, 1024)+"\x07", api.ErrCorrupt)
	refuses(t, "a wrong level ahead of it", head+strings.Repeat(g, 1023)+"\x07\x09\x01"+a, api.ErrCorrupt)
	refuses(t, "many too many", head+strings.Repeat(g, 1<<16), api.ErrCorrupt)
}

// P13.1: numbers may be as great as numbers are.
func TestDecodeNumbers(t *testing.T) {
	most := varint(math.MaxUint64)
	for _, part := range []string{"\x04", "\x05", "\x06", "\x07\x00", "\x07\x06"} {
		reads(t, "greatest", "\x01\x00"+part+most)
		refuses(t, "greatest, cut off", "\x01\x00"+part+most[:9], api.ErrShort)
	}
	keys := keyBytes(key("a", 1, 1)) + keyBytes(key("b", 1, 1))
	reads(t, "greatest of a table", "\x01\x00\x08\x06"+strings.Repeat(most, 4)+keys)
	for i := range 4 {
		numbers := slices.Repeat([]string{"\x01"}, 4)
		numbers[i] = most[:9] + "\x02"
		refuses(t, "2^64 of a table", "\x01\x00\x08\x06"+strings.Join(numbers, "")+keys, api.ErrCorrupt)
		refuses(t, "cut off in a table", "\x01\x00\x08\x06"+strings.Join(numbers[:i], ""), api.ErrShort)
	}
	reads(t, "greatest family", "\x01\xff\xff\xff\xff\x0f")
}

// scan is a second reader, in the chapter's words: it knows where it is, and tells an error by ending.
type scan struct {
	b   string
	at  int
	why api.Errno
}

func (s *scan) fail(why api.Errno) {
	if s.why == api.OK {
		s.why = why
	}
}

// number is a varint: each of its bytes is looked at as it comes.
func (s *scan) number(most uint64) uint64 {
	var n uint64
	for i := 0; s.why == api.OK; i++ {
		if s.at == len(s.b) {
			s.fail(api.ErrShort)
			break
		}
		c := s.b[s.at]
		s.at++
		if i == 9 && c > 1 || i > 0 && c == 0 {
			s.fail(api.ErrCorrupt)
			break
		}
		n |= uint64(c%128) << (7 * i)
		if c < 128 {
			if n > most {
				s.fail(api.ErrCorrupt)
			}
			break
		}
	}
	return n
}

func (s *scan) bytes(n int) string {
	if s.why != api.OK {
		return ""
	}
	if n > len(s.b)-s.at {
		s.fail(api.ErrShort)
		return ""
	}
	s.at += n
	return s.b[s.at-n : s.at]
}

func (s *scan) key() api.Key {
	x := s.bytes(int(s.number(1024+8) % (1 << 20)))
	if s.why != api.OK {
		return api.Key{}
	}
	if len(x) < 8 {
		s.fail(api.ErrCorrupt)
		return api.Key{}
	}
	tail := binary.LittleEndian.Uint64([]byte(x[len(x)-8:]))
	if tail%256 > 2 {
		s.fail(api.ErrCorrupt)
	}
	return key(x[:len(x)-8], tail/256, int(tail%256))
}

// scanned is what Decode should answer.
func scanned(b string) (api.Edit, api.Errno) {
	s := &scan{b: b}
	var e api.Edit
	for ahead := 0; s.why == api.OK && (ahead == 0 || s.at < len(b)); {
		x := s.bytes(1)
		if s.why != api.OK {
			break
		}
		part := int(x[0])
		if ahead == 0 && part != 1 || part > 8 || part < ahead || part == ahead && part < 7 {
			s.fail(api.ErrCorrupt)
		}
		if part >= 7 && len(e.Gone)+len(e.Added) == 1024 || part == 3 && e.Make {
			s.fail(api.ErrCorrupt)
		}
		ahead = part
		const all = math.MaxUint64
		switch part {
		case 1:
			e.Family = uint32(s.number(math.MaxUint32))
		case 2:
			e.Make, e.How = true, int(s.number(1))
			n := s.number(64)
			if n == 0 {
				s.fail(api.ErrCorrupt)
			}
			e.Name = s.bytes(int(n % 1024))
		case 3:
			e.Drop = true
		case 4:
			e.HasLog, e.Log = true, s.number(all)
		case 5:
			e.HasNext, e.Next = true, s.number(all)
		case 6:
			e.HasSeq, e.Seq = true, s.number(all)
		case 7:
			e.Gone = append(e.Gone, gone(int(s.number(6)%8), s.number(all)))
		case 8:
			level := int(s.number(6) % 8)
			f := api.File{Number: s.number(all), Size: s.number(all), Entries: s.number(all), Ranges: s.number(all)}
			f.Smallest = s.key()
			f.Largest = s.key()
			e.Added = append(e.Added, added(level, f))
		}
	}
	if s.why != api.OK {
		return api.Edit{}, s.why
	}
	return e, api.OK
}

// asScanned holds Decode against the second reader; what is read is written as it was (P13.6).
func asScanned(t *testing.T, b string) {
	t.Helper()
	was := strings.Clone(b)
	in := []byte(b)
	got, why := edit.Decode(in)
	want, whyWant := scanned(b)
	if why != whyWant || !exactly(got, want) {
		t.Fatalf("Decode(%x) = %s, %d, want %s, %d", b, short(got), why, short(want), whyWant)
	}
	if string(in) != was {
		t.Fatal("what is handed in was changed")
	}
	if why != api.OK {
		return
	}
	if back, why := edit.Encode(got); string(back) != b || why != api.OK {
		t.Fatalf("Encode(Decode(%x)) = %x, %d", b, back, why)
	}
}

// P13.1, P13.6: bytes that are cut off anywhere, and bytes of which each one was changed to some others.
func TestDecodeSpoilt(t *testing.T) {
	r := chance(3)
	for range 100 {
		b := bytesOf(anyEdit(r))
		for i := range len(b) + 1 {
			asScanned(t, b[:i])
		}
		for i := range min(len(b), 400) {
			for _, c := range []byte{0, 1, 2, 3, 4, 5, 6, 7, 8, 9, 64, 65, 127, 128, 129, 255, b[i] + 1, b[i] - 1} {
				asScanned(t, b[:i]+string([]byte{c})+b[i+1:])
			}
			asScanned(t, b[:i]+b[i+1:])
		}
	}
}

// P13.1, P13.6: all short bytes of a few, and bytes by chance.
func TestDecodeWhatever(t *testing.T) {
	alphabet := []byte{0, 1, 2, 3, 4, 5, 6, 7, 8, 9, 128}
	var all func(b string, left int)
	all = func(b string, left int) {
		asScanned(t, b)
		if left == 0 {
			return
		}
		for _, c := range alphabet {
			all(b+string([]byte{c}), left-1)
		}
	}
	all("", 2)
	all("\x01\x00", 4)
	r := chance(4)
	for range 100000 {
		b := []byte{1, 0}
		for range r.IntN(40) {
			if r.IntN(4) == 0 {
				b = append(b, byte(r.IntN(256)))
			} else {
				b = append(b, alphabet[r.IntN(len(alphabet))])
			}
		}
		asScanned(t, string(b))
	}
}

// FuzzDecode holds Decode against the second reader for whatever bytes.
func FuzzDecode(f *testing.F) {
	r := chance(5)
	for range 20 {
		f.Add([]byte(bytesOf(anyEdit(r))))
	}
	f.Fuzz(func(t *testing.T, b []byte) { asScanned(t, string(b)) })
}
