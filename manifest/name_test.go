package manifest

import (
	"fmt"
	"math/rand"
	"strings"
	"testing"

	"tickler/api"
)

// P14.1

func TestTheExample(t *testing.T) {
	if name, e := Name('t', 12); name != "t12" || e != api.OK {
		t.Errorf("P14.1: Name(t, 12): %q, error %d; want t12", name, e)
	}
	if kind, id, ok := Parse("t012"); kind != 0 || id != 0 || ok {
		t.Errorf("P14.1: Parse(t012): %d, %d, %t; want none", kind, id, ok)
	}
}

func TestNameTellsKindAndDigits(t *testing.T) {
	for _, kind := range "mlt" {
		for _, id := range goodIDs() {
			want := fmt.Sprintf("%c%d", kind, id)
			if name, e := Name(byte(kind), id); name != want || e != api.OK {
				t.Errorf("P14.1: Name(%c, %d): %q, error %d; want %q", kind, id, name, e, want)
			}
		}
	}
	for id, want := range map[int]string{1: "m1", 9: "m9", 10: "m10", 2147483647: "m2147483647"} {
		if name, e := Name('m', id); name != want || e != api.OK {
			t.Errorf("P14.1: Name(m, %d): %q, error %d; want %q", id, name, e, want)
		}
	}
}

func TestNameRefusesNumbers(t *testing.T) {
	for _, kind := range "mlt" {
		for _, id := range badIDs() {
			if name, e := Name(byte(kind), id); name != "" || e != api.ErrRange {
				t.Errorf("P14.1: Name(%c, %d): %q, error %d; want ErrRange", kind, id, name, e)
			}
		}
	}
}

func TestNameRefusesKindsAheadOfNumbers(t *testing.T) {
	for kind := range 256 {
		if strings.IndexByte("mlt", byte(kind)) >= 0 {
			continue
		}
		for _, id := range append(goodIDs(), badIDs()...) {
			if name, e := Name(byte(kind), id); name != "" || e != api.ErrKind {
				t.Errorf("P14.1: Name(%#x, %d): %q, error %d; want ErrKind", kind, id, name, e)
			}
		}
	}
}

func TestParseTellsWhatNameWasGiven(t *testing.T) {
	ids := goodIDs()
	for id := range 3000 {
		ids = append(ids, id+1)
	}
	for _, kind := range []byte("mlt") {
		for _, id := range ids {
			name, _ := Name(kind, id)
			if k, n, ok := Parse(name); k != kind || n != id || !ok {
				t.Errorf("P14.1: Parse(%q): %q, %d, %t; want %q, %d", name, k, n, ok, kind, id)
			}
		}
	}
}

// noNames: texts that Name never tells.
func noNames() []string {
	l := []string{
		"", "m", "l", "t", "CURRENT", "next", "12", "0", "mm1", "tm1", "x1", "M1", "L1", "T1", "1m", "\x001", "\xff1", "\xc3\xa41", " m1", "\tm1",
		"m0", "l0", "t0", "m00", "m01", "l012", "t0000000001", "m02147483647", "m+1", "m-1", "m-0", "m+0", "m -1", "m 1", "m1 ", "m1\n", "\nm1", "m1\x00", "m\x001",
		"m1_0", "m1,0", "m1.0", "m1.", "m.1", "m1e1", "m0x1", "m0b1", "m0o1", "mx", "ma1", "m1a", "m1m", "m1l1", "m1\xff", "m\xff1", "m\xd9\xa1", "m\xef\xbc\x91", "m\xc2\xb2",
		"m2147483648", "m2147483649", "m2147483650", "m3000000000", "m4294967295", "m4294967296", "m4294967297", "m9223372036854775807", "m9223372036854775808",
		"m18446744073709551615", "m18446744073709551616", "m18446744073709551617", "m-2147483648", "m-9223372036854775808", "m-18446744073709551615",
		"minf", "mNaN", "m1/", "m1:", "m/", "m:",
	}
	for _, n := range []int{10, 11, 19, 20, 31, 32, 1000, 100000} {
		l = append(l, "m1"+strings.Repeat("0", n), "t"+strings.Repeat("9", n), "l"+strings.Repeat("0", n)+"1")
	}
	for x := range 256 {
		if x < '0' || x > '9' {
			l = append(l, "m"+string([]byte{byte(x)})+"1", "l1"+string([]byte{byte(x)}), "t1"+string([]byte{byte(x)})+"2")
		}
		if x != 'm' && x != 'l' && x != 't' {
			l = append(l, string([]byte{byte(x)})+"12")
		}
	}
	return l
}

func TestParseOfNoName(t *testing.T) {
	for _, name := range noNames() {
		if kind, id, ok := Parse(name); kind != 0 || id != 0 || ok {
			t.Errorf("P14.1: Parse(%.60q): %q, %d, %t; want none", name, kind, id, ok)
		}
	}
}

func TestParseOfDrawnTexts(t *testing.T) {
	r := rand.New(rand.NewSource(14))
	told := 0
	for range 100000 {
		b := make([]byte, r.Intn(14))
		for i := range b {
			b[i] = "0123456789123456789mlt+-_ x"[r.Intn(27)]
			if i == 0 || r.Intn(3) > 0 {
				b[i] = "mlt0123456789"[r.Intn(3)+min(i, 1)*r.Intn(11)]
			}
		}
		kind, id, ok := Parse(string(b))
		k, n, want := modelParse(string(b))
		if kind != k || id != n || ok != want {
			t.Errorf("P14.1: Parse(%q): %q, %d, %t; want %q, %d, %t", b, kind, id, ok, k, n, want)
		}
		if ok {
			told++
			if name, e := Name(kind, id); name != string(b) || e != api.OK {
				t.Errorf("P14.1: Parse(%q) is %q, %d, whose name is %q", b, kind, id, name)
			}
		}
	}
	if told < 5000 || told > 95000 {
		t.Errorf("P14.1: %d of the drawn texts are names: too few of one kind to tell", told)
	}
}
