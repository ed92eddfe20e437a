package manifest_test

import (
	"math"
	"strings"
	"testing"

	"sediment/manifest"
)

// P14.1
func TestName(t *testing.T) {
	for number, want := range map[uint64]string{
		0: "MANIFEST-000000", 3: "MANIFEST-000003", 10: "MANIFEST-000010", 99999: "MANIFEST-099999", 100000: "MANIFEST-100000", 999999: "MANIFEST-999999",
		1000000: "MANIFEST-1000000", 12345678: "MANIFEST-12345678", 1 << 63: "MANIFEST-9223372036854775808", math.MaxUint64: "MANIFEST-18446744073709551615",
	} {
		if s := manifest.Name(number); s != want {
			t.Errorf("Name(%d): %s, want %s", number, s, want)
		}
		if n, is := manifest.Number(want); n != number || !is {
			t.Errorf("Number(%q): %d, %t", want, n, is)
		}
	}
}

// P14.1: a Name stands for its number.
func TestNameAndBack(t *testing.T) {
	r := chance(1)
	for range 20000 {
		number := r.Uint64() >> r.IntN(64)
		if n, is := manifest.Number(manifest.Name(number)); n != number || !is {
			t.Errorf("Number(Name(%d)): %d, %t", number, n, is)
		}
	}
}

// P14.1: what is no Name.
func TestNoName(t *testing.T) {
	for _, name := range []string{
		"", "MANIFEST", "MANIFEST-", "000003", "-000003", "MANIFEST-3", "MANIFEST-00003", "MANIFEST-0000003", "MANIFEST-0100000", "MANIFEST-00000", "MANIFEST-0000000", "MANIFEST-01000000",
		"MANIFEST000003", "MANIFEST_000003", "MANIFEST--00003", "MANIFEST-+00003", "MANIFEST-+000003", "MANIFEST--000003", "MANIFEST-MANIFEST-000003",
		"manifest-000003", "Manifest-000003", "MANIFEST-000003 ", " MANIFEST-000003", "MANIFEST-000003\n", "MANIFEST-000003\x00", "MANIFEST-000003.sst", "xMANIFEST-000003", "d/MANIFEST-000003",
		"MANIFEST-0x0003", "MANIFEST-0b0001", "MANIFEST-0o0007", "MANIFEST-1_000_000", "MANIFEST-1e0006", "MANIFEST-00000a", "MANIFEST-00000A", "MANIFEST-000 03", "MANIFEST-3.0000",
		"MANIFEST-18446744073709551616", "MANIFEST-99999999999999999999", "MANIFEST-018446744073709551615", "MANIFEST-184467440737095516150",
		"MANIFEST-\u0660\u0660\u0660\u0660\u0660\u0661", "MANIFEST-00000\xff", "CURRENT", "000003.sst",
		"MANIFEST-" + strings.Repeat("0", 100000) + "3", "MANIFEST-" + strings.Repeat("9", 100000), strings.Repeat("MANIFEST-", 1000),
	} {
		if n, is := manifest.Number(name); n != 0 || is {
			t.Errorf("Number(%.40q): %d, %t", name, n, is)
		}
	}
}
