package keys

import (
	"encoding/hex"
	"fmt"
	"math"
	"math/big"
	"regexp"
	"slices"
	"strings"
	"testing"
	"unsafe"

	"tickler/api"
)

// num and txt make the two kinds of parts.
func num(n int) Part        { return Part{Num: true, N: n} }
func txt(s string) Part     { return Part{Text: s} }
func list(l ...Part) []Part { return l }

// times: a list of count parts p.
func times(p Part, count int) []Part { return slices.Repeat([]Part{p}, count) }

// octets: what the hexadecimal text h (with blanks) tells.
func octets(h string) string {
	b, err := hex.DecodeString(strings.ReplaceAll(h, " ", ""))
	if err != nil {
		panic(err)
	}
	return string(b)
}

// spelled writes the parts by the chapter's words, in great numbers and replaced texts, so that it shares nothing with Encode.
func spelled(l []Part) string {
	var s string
	for _, p := range l {
		if p.Num {
			n := new(big.Int).Add(big.NewInt(int64(p.N)), new(big.Int).Lsh(big.NewInt(1), 63))
			s += octets(fmt.Sprintf("11%016x", n))
		} else {
			s += "\x22" + strings.ReplaceAll(p.Text, "\x00", "\x00\xff") + "\x00\x01"
		}
	}
	return s
}

var (
	aNumber = regexp.MustCompile(`^11(?:..){8}`)
	inText  = regexp.MustCompile(`^22(?:00ff|0[1-9a-f]|[1-9a-f].)*`)
)

// judged tells, of octets spelled in hexadecimal, which error Decode owes, and how many parts there are.
func judged(s string) (int, api.Errno) {
	h := hex.EncodeToString([]byte(s))
	for count := 0; ; count++ {
		switch {
		case h == "" && count > 8:
			return 0, api.ErrCount
		case h == "":
			return count, api.OK
		case aNumber.MatchString(h):
			h = h[18:]
		case strings.HasPrefix(h, "11"):
			return 0, api.ErrShort
		case !strings.HasPrefix(h, "22"):
			return 0, api.ErrKind
		default:
			h = h[len(inText.FindString(h)):]
			if h == "" || h == "00" {
				return 0, api.ErrShort
			}
			if !strings.HasPrefix(h, "0001") {
				return 0, api.ErrArg
			}
			h = h[4:]
		}
	}
}

// texts: all texts of at most longest octets out of those of alphabet.
func texts(alphabet string, longest int) []string {
	all, last := []string{""}, []string{""}
	for range longest {
		var next []string
		for _, s := range last {
			for i := range len(alphabet) {
				next = append(next, s+alphabet[i:i+1])
			}
		}
		all, last = append(all, next...), next
	}
	return all
}

// ordered: lists of parts that may be, by the chapter's order, each once.
func ordered() [][]Part {
	parts := []Part{
		num(math.MinInt), num(math.MinInt + 1), num(-1 << 32), num(-257), num(-256), num(-1),
		num(0), num(1), num(255), num(256), num(1 << 32), num(math.MaxInt - 1), num(math.MaxInt),
		txt(""), txt("\x00"), txt("\x00\x00"), txt("\x00\x01"), txt("\x00\xff"), txt("\x01"), txt("\x01\x00"), txt("\x11"), txt("\x22"),
		txt("a"), txt("a\x00"), txt("a\x00\x00"), txt("a\x00\x01"), txt("a\x00b"), txt("a\x00\xff"), txt("a\x01"), txt("a\x11"), txt("a\"\x00"), txt("aa"), txt("ab"), txt("a\xff"), txt("a\xff\x00"),
		txt("b"), txt("\x7f"), txt("\x80"), txt("\xc3\xa4"), txt("\xff"), txt("\xff\x00"), txt("\xff\xff"),
	}
	out := [][]Part{nil}
	for _, p := range parts {
		out = append(out, list(p))
		for _, q := range parts {
			out = append(out, list(p, q))
		}
	}
	last := times(parts[len(parts)-1], 2)
	for len(last) < 8 {
		last = append(last, txt("\xff\xff"))
		out = append(out, slices.Clone(last))
	}
	return out
}

// faulty: parts of which neither kind may be.
func faulty() []Part {
	return []Part{
		{N: 1}, {N: -1}, {N: 1, Text: "a"}, {N: math.MinInt, Text: "\x00"},
		{Num: true, Text: "a"}, {Num: true, N: 7, Text: "\x00"}, {Num: true, N: math.MaxInt, Text: "long"},
	}
}

// refused fails unless Decode of s answers the error and nothing beside it.
func refused(t *testing.T, what, s string, want api.Errno) {
	t.Helper()
	if l, e := Decode(s); len(l) != 0 || e != want {
		t.Errorf("P2.1: %s: Decode(%x): %#v, error %d; want none, error %d", what, s, l, e, want)
	}
}

// P2.1

func TestEncodeExamples(t *testing.T) {
	for _, c := range []struct {
		l    []Part
		want string
	}{
		{nil, ""},
		{list(), ""},
		{list(num(1)), "11 8000000000000001"},
		{list(num(0)), "11 8000000000000000"},
		{list(num(-1)), "11 7fffffffffffffff"},
		{list(num(math.MinInt)), "11 0000000000000000"},
		{list(num(math.MaxInt)), "11 ffffffffffffffff"},
		{list(num(0x0102030405060708)), "11 8102030405060708"},
		{list(txt("a")), "22 61 0001"},
		{list(txt("")), "22 0001"},
		{list(txt("\x00")), "22 00ff 0001"},
		{list(txt("\x00\x01")), "22 00ff 01 0001"},
		{list(txt("\x00\xff\xff")), "22 00ff ff ff 0001"},
		{list(txt("\x11\x22")), "22 11 22 0001"},
		{list(txt("a"), num(-2), txt("")), "22 61 0001 11 7ffffffffffffffe 22 0001"},
		{times(txt("b"), 8), strings.Repeat("22 62 0001", 8)},
	} {
		want := octets(c.want)
		if got, e := Encode(c.l); got != want || e != api.OK {
			t.Errorf("P2.1: Encode(%#v): %x, error %d; want %x", c.l, got, e, want)
		}
		if got, e := Decode(want); !slices.Equal(got, c.l) || e != api.OK {
			t.Errorf("P2.1: Decode(%x): %#v, error %d; want %#v", want, got, e, c.l)
		}
	}
}

func TestEncodeIsSpelledByTheChapter(t *testing.T) {
	for _, l := range ordered() {
		if got, e := Encode(l); got != spelled(l) || e != api.OK {
			t.Errorf("P2.1: Encode(%#v): %x, error %d; want %x", l, got, e, spelled(l))
		}
	}
}

func TestCheck(t *testing.T) {
	for _, l := range ordered() {
		if e := Check(l); e != api.OK {
			t.Errorf("P2.1: Check(%#v): error %d", l, e)
		}
	}
	for _, p := range faulty() {
		for place := range 8 {
			l := times(num(5), 8)
			l[place] = p
			for _, l := range [][]Part{l, l[:place+1]} {
				if e := Check(l); e != api.ErrArg {
					t.Errorf("P2.1: Check(%#v): error %d, want %d", l, e, api.ErrArg)
				}
				if s, e := Encode(l); s != "" || e != api.ErrArg {
					t.Errorf("P2.1: Encode(%#v): %x, error %d, want %d", l, s, e, api.ErrArg)
				}
			}
		}
	}
}

func TestTooManyParts(t *testing.T) {
	for _, p := range append(faulty(), num(3), txt("c")) {
		for _, count := range []int{9, 10, 300} {
			l := times(p, count)
			if e := Check(l); e != api.ErrCount {
				t.Errorf("P2.1: Check of %d parts %#v: error %d, want %d", count, p, e, api.ErrCount)
			}
			if s, e := Encode(l); s != "" || e != api.ErrCount {
				t.Errorf("P2.1: Encode of %d parts %#v: %x, error %d, want %d", count, p, s, e, api.ErrCount)
			}
		}
	}
}

func TestDecodeOfOtherKinds(t *testing.T) {
	for x := range 256 {
		if x == 0x11 || x == 0x22 {
			continue
		}
		kind := string([]byte{byte(x)})
		refused(t, "another kind", kind, api.ErrKind)
		refused(t, "another kind", kind+octets("8000000000000001"), api.ErrKind)
		refused(t, "another kind behind a text", octets("22 61 0001")+kind+octets("0001"), api.ErrKind)
		refused(t, "another kind behind a number", octets("11 8000000000000001")+kind, api.ErrKind)
	}
}

func TestDecodeOfCutOff(t *testing.T) {
	for _, l := range ordered() {
		whole := spelled(l)
		starts := map[int]int{0: 0}
		for k := range l {
			starts[len(spelled(l[:k]))] = k
		}
		for cut := range len(whole) {
			k, between := starts[cut]
			if !between {
				refused(t, "cut off", whole[:cut], api.ErrShort)
			} else if got, e := Decode(whole[:cut]); !slices.Equal(got, l[:k]) || e != api.OK {
				t.Errorf("P2.1: Decode of the first %d of %#v: %#v, error %d", k, l, got, e)
			}
		}
	}
}

func TestDecodeOfWhatFollowsZero(t *testing.T) {
	for x := range 256 {
		if x == 0x01 || x == 0xff {
			continue
		}
		pair := string([]byte{0, byte(x)})
		for _, ahead := range []string{"\x22", "\x22a", "\x22\x00\xff", "\x11\x80\x00\x00\x00\x00\x00\x00\x01\x22a"} {
			refused(t, "neither 01 nor ff", ahead+pair, api.ErrArg)
			refused(t, "neither 01 nor ff, with an end", ahead+pair+"\x00\x01", api.ErrArg)
			refused(t, "neither 01 nor ff, and another kind", ahead+pair+"\x00\x01\x33", api.ErrArg)
		}
	}
}

func TestDecodeTellsTheFirstErrorOfTheOctets(t *testing.T) {
	many := strings.Repeat("22 61 0001", 9)
	for _, c := range []struct {
		name, h string
		want    api.Errno
	}{
		{"a wrong pair, then the end is missing", "22 61 0002 61", api.ErrArg},
		{"a wrong pair, then another kind", "22 0000 0001 33", api.ErrArg},
		{"another kind, then a wrong pair", "33 22 0002", api.ErrKind},
		{"another kind, then cut off", "22 0001 44 11 80", api.ErrKind},
		{"a number that a text cuts off", "11 80 22 61 0001", api.ErrShort},
		{"a 00 at the very end", "22 61 00", api.ErrShort},
		{"a 00 ff at the very end", "22 61 00ff", api.ErrShort},
		{"nine parts", many, api.ErrCount},
		{"nine numbers", strings.Repeat("11 8000000000000000", 9), api.ErrCount},
		{"thirty parts", many + many + many + "22 61 0001 22 0001 22 0001", api.ErrCount},
		{"nine parts, then another kind", many + "00", api.ErrKind},
		{"nine parts, then cut off", many + "11", api.ErrShort},
		{"nine parts, then a wrong pair", many + "22 0022", api.ErrArg},
		{"thirty parts, then another kind", many + many + many + "ff", api.ErrKind},
	} {
		refused(t, c.name, octets(c.h), c.want)
	}
}

// agrees fails unless Decode of s is what the judge tells, and what it takes is Encode of it.
func agrees(t *testing.T, s string) {
	t.Helper()
	count, want := judged(s)
	l, e := Decode(s)
	if e != want || len(l) != count {
		t.Fatalf("P2.1: Decode(%x): %d parts, error %d; want %d parts, error %d", s, len(l), e, count, want)
	}
	if e != api.OK {
		return
	}
	if back, e := Encode(l); back != s || e != api.OK || spelled(l) != s {
		t.Fatalf("P2.3: Decode(%x): %#v, which is %x, error %d", s, l, back, e)
	}
}

func TestDecodeOfAllShortTexts(t *testing.T) {
	for _, s := range texts("\x00\x01\x11\x22a\xff", 6) {
		agrees(t, s)
	}
	for _, s := range texts("\x00\x01\x22\xff", 4) {
		agrees(t, octets("11 8000000000000001")+s+octets("11 0001ff2200010022"))
	}
}

// P2.2

func TestCompareInOrder(t *testing.T) {
	l := ordered()
	for i, a := range l {
		for j, b := range l {
			want := 0
			if i < j {
				want = -1
			} else if i > j {
				want = 1
			}
			if got, e := Compare(a, b); got != want || e != api.OK {
				t.Fatalf("P2.2: Compare(%#v, %#v): %d, error %d; want %d", a, b, got, e, want)
			}
		}
	}
}

func TestCompareOfNothing(t *testing.T) {
	for _, c := range []struct {
		a, b []Part
		want int
	}{
		{nil, nil, 0}, {nil, list(), 0}, {list(), nil, 0},
		{nil, list(num(math.MinInt)), -1}, {list(txt("")), list(), 1},
	} {
		if got, e := Compare(c.a, c.b); got != c.want || e != api.OK {
			t.Errorf("P2.2: Compare(%#v, %#v): %d, error %d; want %d", c.a, c.b, got, e, c.want)
		}
	}
}

func TestCompareErrors(t *testing.T) {
	good, long := list(num(1)), times(num(1), 9)
	for _, p := range faulty() {
		bad := list(num(1), p)
		for _, c := range []struct {
			a, b []Part
			want api.Errno
		}{
			{bad, good, api.ErrArg}, {good, bad, api.ErrArg}, {bad, bad, api.ErrArg},
			{long, good, api.ErrCount}, {good, long, api.ErrCount},
			{bad, long, api.ErrArg}, {long, bad, api.ErrCount},
			{times(p, 9), bad, api.ErrCount}, {list(num(0)), list(num(1), p), api.ErrArg},
		} {
			if n, e := Compare(c.a, c.b); n != 0 || e != c.want {
				t.Errorf("P2.2: Compare(%#v, %#v): %d, error %d; want 0, error %d", c.a, c.b, n, e, c.want)
			}
		}
	}
}

func TestAboveExamples(t *testing.T) {
	for _, c := range []struct {
		s, want string
		ok      bool
	}{
		{"a", "b", true},
		{"a\xff", "b", true},
		{"a\xff\xff", "b", true},
		{"a\xffb\xff", "a\xffc", true},
		{"ab", "ac", true},
		{"\x00", "\x01", true},
		{"\x00\xff", "\x01", true},
		{"a\x00", "a\x01", true},
		{"\xfe", "\xff", true},
		{"\xfe\xff", "\xff", true},
		{"\xff\xfe", "\xff\xff", true},
		{"a\xfe", "a\xff", true},
		{"a\x80", "a\x81", true},
		{"\x7f", "\x80", true},
		{"\xff\x00\xff", "\xff\x01", true},
		{"a\xef\xbf\xbd", "a\xef\xbf\xbe", true},
		{"a\xc3\xbf", "a\xc3\xc0", true},
		{"", "", false},
		{"\xff", "", false},
		{"\xff\xff", "", false},
		{strings.Repeat("\xff", 500), "", false},
		{"z" + strings.Repeat("\xff", 500), "{", true},
	} {
		if got, ok := Above(c.s); got != c.want || ok != c.ok {
			t.Errorf("P2.2: Above(%x): %x, %#v; want %x, %#v", c.s, got, ok, c.want, c.ok)
		}
	}
}

func TestAboveIsTheLeast(t *testing.T) {
	all := texts("\x00\x01a\xfe\xff", 4)
	for _, s := range texts("\x00a\xfe\xff", 3) {
		above, ok := Above(s)
		for _, x := range all {
			beyond := x > s && !strings.HasPrefix(x, s)
			if !ok && beyond {
				t.Fatalf("P2.2: Above(%x): none, but %x is above all that begin with it", s, x)
			}
			if ok && beyond != (x >= above) {
				t.Fatalf("P2.2: Above(%x): %x, but %x: above all that begin with it: %#v", s, above, x, beyond)
			}
		}
	}
}

// P2.3

func TestThereAndBack(t *testing.T) {
	for _, l := range ordered() {
		s, e := Encode(l)
		if e != api.OK {
			t.Fatalf("P2.3: Encode(%#v): error %d", l, e)
		}
		if back, e := Decode(s); !slices.Equal(back, l) || e != api.OK {
			t.Errorf("P2.3: Decode of Encode(%#v): %#v, error %d", l, back, e)
		}
	}
	for x := range 256 {
		l := list(txt(string([]byte{byte(x), 0, byte(x)})), num(x-128), num((x-128)<<56))
		s, _ := Encode(l)
		if back, e := Decode(s); !slices.Equal(back, l) || e != api.OK {
			t.Errorf("P2.3: Decode of Encode(%#v): %#v, error %d", l, back, e)
		}
	}
}

// P2.4

func TestOctetsAreOrderedAsParts(t *testing.T) {
	l := ordered()
	encoded := make([]string, len(l))
	for i := range l {
		encoded[i], _ = Encode(l[i])
	}
	for i := range l {
		for j := range l {
			n, e := Compare(l[i], l[j])
			if e != api.OK || n != strings.Compare(encoded[i], encoded[j]) {
				t.Fatalf("P2.4: Compare(%#v, %#v): %d, error %d; their octets %x and %x", l[i], l[j], n, e, encoded[i], encoded[j])
			}
		}
	}
}

func TestShortTextsAreOrderedAsParts(t *testing.T) {
	l := texts("\x00\x01\xff", 3)
	for _, a := range l {
		for _, b := range l {
			x, _ := Encode(list(txt(a), num(-1)))
			y, _ := Encode(list(txt(b), num(1)))
			want := strings.Compare(a, b)
			if a == b {
				want = -1
			}
			if strings.Compare(x, y) != want {
				t.Fatalf("P2.4: the texts %x and %x, but their octets %x and %x", a, b, x, y)
			}
		}
	}
}

// P2.5

// overlap tells whether two texts share an octet of memory.
func overlap(a, b string) bool {
	if a == "" || b == "" {
		return false
	}
	x, y := uintptr(unsafe.Pointer(unsafe.StringData(a))), uintptr(unsafe.Pointer(unsafe.StringData(b)))
	return x < y+uintptr(len(b)) && y < x+uintptr(len(a))
}

func TestPartsStayAsTheyWere(t *testing.T) {
	for _, l := range [][]Part{
		list(txt("ab\x00c"), num(5), txt("")),
		list(num(5), Part{N: 1, Text: "a"}, Part{Num: true, Text: "b"}),
		times(Part{N: 1}, 9),
	} {
		// Room behind the list, to see that nothing is laid there either.
		roomy := append(slices.Clone(l), num(77), num(78))
		was, other := slices.Clone(roomy), list(txt("ab\x00c"), num(6))
		Check(roomy[:len(l)])
		Encode(roomy[:len(l)])
		Compare(roomy[:len(l)], other)
		Compare(other, roomy[:len(l)])
		if !slices.Equal(roomy, was) || !slices.Equal(other, list(txt("ab\x00c"), num(6))) {
			t.Errorf("P2.5: %#v became %#v, beside %#v", was, roomy, other)
		}
	}
}

func TestDecodeAnswersNewMemory(t *testing.T) {
	want := list(txt("first"), num(9), txt("second\x00"), txt("first"))
	s := spelled(want)
	a, _ := Decode(s)
	b, _ := Decode(s)
	for i, p := range a {
		if overlap(p.Text, s) {
			t.Errorf("P2.5: part %d of Decode shares memory with its octets", i)
		}
		for j, q := range slices.Concat(a, b) {
			if i != j && overlap(p.Text, q.Text) {
				t.Errorf("P2.5: parts %d and %d of two answers share memory", i, j)
			}
		}
	}
	a = a[:cap(a)]
	for i := range a {
		a[i] = num(1)
	}
	if c, _ := Decode(s); !slices.Equal(b, want) || !slices.Equal(c, want) {
		t.Errorf("P2.5: Decode's answers became %#v and %#v, want %#v", b, c, want)
	}
}

func TestTextsAreNewMemory(t *testing.T) {
	l := list(txt("some text"), num(3))
	a, _ := Encode(l)
	b, _ := Encode(l)
	if overlap(a, b) || overlap(a, l[0].Text) {
		t.Error("P2.5: Encode's text shares memory")
	}
	s := "some text\xff\xff"
	x, _ := Above(s)
	y, _ := Above(s)
	if overlap(x, s) || overlap(x, y) {
		t.Error("P2.5: Above's text shares memory")
	}
}

// P1 of DOC.md: whatever the octets and the parts, the calls answer, and they agree with each other.

func FuzzAnyOctets(f *testing.F) {
	for _, l := range ordered()[:60] {
		f.Add(spelled(l))
		f.Add(spelled(l) + "\x22\x00\x00")
	}
	f.Add(strings.Repeat("\x22\x00\x01", 9))
	f.Fuzz(func(t *testing.T, s string) {
		agrees(t, s)
		above, ok := Above(s)
		if none := strings.Count(s, "\xff") == len(s); ok == none {
			t.Fatalf("P2.2: Above(%x): %x, %#v", s, above, ok)
		}
		if ok && (above <= s+strings.Repeat("\xff", 9) || strings.HasPrefix(above, s)) {
			t.Fatalf("P2.2: Above(%x): %x", s, above)
		}
	})
}

func FuzzAnyParts(f *testing.F) {
	f.Add(true, 5, "", false, 0, "a\x00", 2)
	f.Add(false, 5, "", true, 0, "a", 9)
	f.Add(false, 0, "x", false, 0, "x\x00", 8)
	f.Fuzz(func(t *testing.T, aNum bool, aN int, aText string, bNum bool, bN int, bText string, count int) {
		p, q := Part{aNum, aN, aText}, Part{bNum, bN, bText}
		a, b := list(p, q), times(q, min(max(count, 0), 12))
		x, e1 := Encode(a)
		y, e2 := Encode(b)
		n, e := Compare(a, b)
		switch {
		case e1 != api.OK && e != e1, e1 == api.OK && e != e2:
			t.Fatalf("P2.2: Compare(%#v, %#v): error %d; Encode: errors %d, %d", a, b, e, e1, e2)
		case e == api.OK && n != strings.Compare(x, y):
			t.Fatalf("P2.4: Compare(%#v, %#v): %d; their octets %x and %x", a, b, n, x, y)
		}
	})
}
