package edit

import (
	"bytes"
	"fmt"
	"math"
	"slices"
	"testing"

	"tickler/api"
)

// P11.2: Encode

func TestEncodeOctetByOctet(t *testing.T) {
	for _, c := range []struct {
		what string
		e    Edit
		want []byte
	}{
		{"zero", Edit{}, []byte{0, 0, 0, 0}},
		{"Seq and Next", Edit{Seq: 1, Next: 2}, []byte{1, 2, 0, 0}},
		{"two octets each", Edit{Seq: 128, Next: 16383}, []byte{0x80, 0x80, 0xbf, 0xff, 0, 0}},
		{"six octets", Edit{Seq: 1 << 40, Next: 127}, []byte{0xf9, 0, 0, 0, 0, 0, 0x7f, 0, 0}},
		{"dropped as they stand", Edit{Drop: []int{3, 1, 300}, Next: 9}, []byte{0, 9, 3, 3, 1, 0x81, 0x2c, 0}},
		{"one added", Edit{Add: []Meta{{1, 2, 3, "ab", "c"}}, Next: 4}, []byte{0, 4, 0, 1, 1, 2, 3, 2, 'a', 'b', 1, 'c'}},
		{"as they stand", Edit{Drop: []int{7}, Add: []Meta{{9, 0, 200, "b", "b"}, {5, 3, 1, "", "\xff\x00"}}, Seq: 6, Next: 10}, []byte{6, 10, 1, 7, 2, 9, 0, 0x80, 0xc8, 1, 'b', 1, 'b', 5, 3, 1, 0, 2, 0xff, 0}},
	} {
		if b, e := Encode(c.e); e != api.OK || !bytes.Equal(b, c.want) {
			t.Errorf("P11.2: Encode, %s: %x, error %d; want %x", c.what, b, e, c.want)
		}
		if x, e := Decode(c.want); e != api.OK || !sameEdit(x, c.e) {
			t.Errorf("P11.2: Decode, %s: %v, error %d; want %v", c.what, x, e, c.e)
		}
	}
}

// P11.3

func TestEncodeAndBack(t *testing.T) {
	for what, d := range edits() {
		if b, e := Encode(d); e != api.OK || !bytes.Equal(b, laid(d)) {
			t.Errorf("P11.2: Encode, %s: %x, error %d; want %x", what, b, e, laid(d))
		}
		encoded(t, what, d)
	}
}

// wrongEdits: edits with a number or a text in one place of it.
func wrongEdits(n int, s string) map[string]Edit {
	fine := table(1, 1, "a", "b")
	return map[string]Edit{
		"Seq":       {Seq: n},
		"Next":      {Next: n},
		"Drop":      {Drop: []int{n}},
		"Drop last": {Drop: []int{1, 2, n}},
		"ID":        {Add: []Meta{{n, 1, 1, "a", "b"}}},
		"Level":     {Add: []Meta{{1, n, 1, "a", "b"}}},
		"Count":     {Add: []Meta{fine, {1, 1, n, "a", "b"}}},
		"Low":       {Add: []Meta{fine, table(1, 1, s, "b")}},
		"High":      {Add: []Meta{table(1, 1, "a", s), fine}},
	}
}

func TestEncodeOfNumbersAndTexts(t *testing.T) {
	for _, c := range []struct {
		n, length int
		want      api.Errno
	}{
		{0, 0, api.OK}, {1, 96, api.OK}, {lastSeq, 95, api.OK},
		{-1, 97, api.ErrArg}, {lastSeq + 1, 98, api.ErrArg}, {math.MinInt, 128, api.ErrArg}, {math.MaxInt, 1000, api.ErrArg}, {-lastSeq, 97, api.ErrArg},
	} {
		for where, d := range wrongEdits(c.n, long(c.length)) {
			what := fmt.Sprintf("%d or %d octets in %s", c.n, c.length, where)
			if b, e := Encode(d); e != c.want || e != api.OK && len(b) != 0 {
				t.Errorf("P11.2: Encode, %s: %x, error %d; want error %d", what, b, e, c.want)
			}
			encoded(t, what, d)
		}
	}
}

func TestEncodeOfMany(t *testing.T) {
	for _, drop := range []int{0, 1, 255, 256, 257, 1000} {
		for _, add := range []int{0, 1, 255, 256, 257, 1000} {
			want := api.OK
			if drop > 256 || add > 256 {
				want = api.ErrCount
			}
			d := Edit{Drop: counted(drop), Add: row(add, 1, 1)}
			what := fmt.Sprintf("%d dropped, %d added", drop, add)
			if b, e := Encode(d); e != want || e != api.OK && len(b) != 0 {
				t.Errorf("P11.2: Encode, %s: error %d; want %d", what, e, want)
			}
			encoded(t, what, d)
		}
	}
}

// How many there are is told ahead of what they are, wherever that stands.
func TestEncodeOrderOfErrors(t *testing.T) {
	for where, d := range wrongEdits(-1, long(97)) {
		few := d
		d.Drop = append(slices.Clone(d.Drop), counted(257)...)
		if b, e := Encode(d); e != api.ErrCount || len(b) != 0 {
			t.Errorf("P11.2: Encode, wrong %s and too many dropped: %x, error %d", where, b, e)
		}
		d = few
		d.Add = append(slices.Clone(d.Add), row(257, 1, 1)...)
		if b, e := Encode(d); e != api.ErrCount || len(b) != 0 {
			t.Errorf("P11.2: Encode, wrong %s and too many added: %x, error %d", where, b, e)
		}
	}
}

// P11.2: Decode

// unread fails unless Decode answers that error and nothing else.
func unread(t *testing.T, what string, b []byte, want api.Errno) {
	t.Helper()
	if x, e := Decode(b); e != want || !noEdit(x) {
		t.Errorf("P11.2: Decode, %s (%x): %v, error %d; want error %d", what, b, x, e, want)
	}
}

func TestDecodeCutOff(t *testing.T) {
	for what, d := range edits() {
		b := laid(d)
		for n := range b {
			unread(t, fmt.Sprint(what, ", cut off at ", n), b[:n], api.ErrShort)
		}
	}
	unread(t, "nil", nil, api.ErrShort)
	unread(t, "empty", []byte{}, api.ErrShort)
}

// What is behind the octets handed in is not read, though there is room.
func TestDecodeDoesNotLookBehind(t *testing.T) {
	b := laid(edits()["both"])
	for n := range b {
		if x, e := Decode(b[:n:len(b)]); e != api.ErrShort || !noEdit(x) {
			t.Errorf("P11.2: Decode of %d octets with the others in the room behind them: %v, error %d", n, x, e)
		}
	}
}

func TestDecodeTooMany(t *testing.T) {
	for what, d := range edits() {
		for _, behind := range [][]byte{{0}, {1}, {0xff}, {0, 0, 0, 0}, []byte("behind"), laid(Edit{Next: 1})} {
			unread(t, what+", and more", append(laid(d), behind...), api.ErrTail)
		}
	}
}

// places: the octets of an edit with one drop and two metas, number by number and text by text; each place's kind is n (a number), c (how many), l (a length) or t (a text).
func places() (kinds string, parts [][]byte) {
	kinds = "nncncnnnltltnnnltlt"
	for _, n := range []int{300, 7, 1, 5, 2, 1, 2, 3, 2} {
		parts = append(parts, number(uint64(n)))
	}
	parts = append(parts, []byte("ab"), number(3), []byte("abc"), number(2), number(0), number(4096), number(0), nil, number(96), []byte(long(96)))
	return kinds, parts
}

func TestPlacesAreAnEdit(t *testing.T) {
	kinds, parts := places()
	want := Edit{Drop: []int{5}, Add: []Meta{{1, 2, 3, "ab", "abc"}, {2, 0, 4096, "", long(96)}}, Seq: 300, Next: 7}
	if x, e := Decode(bytes.Join(parts, nil)); e != api.OK || !sameEdit(x, want) || len(kinds) != len(parts) {
		t.Errorf("P11.2: Decode, place by place: %v, error %d; want %v", x, e, want)
	}
}

// replaced: the parts with another one in one place, and what then is behind it.
func replaced(parts [][]byte, at int, part []byte, behind []byte) []byte {
	return slices.Concat(bytes.Join(parts[:at], nil), part, behind)
}

// tooMuch: the error of a number in a place of that kind, if it is one there.
func tooMuch(kind rune, n uint64) api.Errno {
	if n > lastSeq || kind == 'l' && n > 96 {
		return api.ErrArg
	}
	if kind == 'c' && n > 256 {
		return api.ErrCount
	}
	return api.OK
}

// The first error in the order of the octets is told, whatever is behind it.
func TestDecodeInTheOrderOfTheOctets(t *testing.T) {
	kinds, parts := places()
	for at, kind := range kinds {
		if kind == 't' {
			continue
		}
		rests := [][]byte{bytes.Join(parts[at+1:], nil), nil, {0}, bytes.Repeat([]byte{0}, 2000), bytes.Repeat([]byte{0xff}, 2000), wide(1, 3)}
		for _, rest := range rests {
			for _, n := range []uint64{97, 128, 256, 257, 1 << 20, lastSeq, lastSeq + 1, 1 << 41, 1 << 62, 1<<63 - 1, 1 << 63, math.MaxUint64} {
				if want := tooMuch(kind, n); want != api.OK {
					unread(t, fmt.Sprint(n, " in place ", at), replaced(parts, at, number(n), rest), want)
				}
			}
			for k := 2; k <= 9; k++ {
				unread(t, fmt.Sprint(k, " octets for 1 in place ", at), replaced(parts, at, wide(1, k), rest), api.ErrRange)
				n := uint64(1)<<(7*(k-1)) - 1
				unread(t, fmt.Sprint(k, " octets for ", n, " in place ", at), replaced(parts, at, wide(n, k), rest), api.ErrRange)
			}
		}
		for k := 2; k <= 9; k++ {
			short := wide(1, k)[:k-1]
			unread(t, fmt.Sprint("one of ", k, " octets missing in place ", at), replaced(parts, at, short, nil), api.ErrShort)
		}
	}
}

// A length that may be, of a text that is not there whole.
func TestDecodeOfTextsCutOff(t *testing.T) {
	kinds, parts := places()
	for at, kind := range kinds {
		if kind != 'l' {
			continue
		}
		for _, n := range []int{1, 2, 95, 96} {
			for _, there := range []int{0, 1, n - 1} {
				if there < n {
					unread(t, fmt.Sprint(there, " of ", n, " octets in place ", at), replaced(parts, at, number(uint64(n)), bytes.Repeat([]byte{0xff}, there)), api.ErrShort)
				}
			}
		}
		unread(t, fmt.Sprint("97 octets, none of them there, in place ", at), replaced(parts, at, []byte{97}, nil), api.ErrArg)
	}
}

// A count that may be, of things that are not there.
func TestDecodeOfCounts(t *testing.T) {
	for _, n := range []uint64{1, 2, 255, 256} {
		unread(t, fmt.Sprint(n, " dropped, none there"), slices.Concat([]byte{0, 1}, number(n)), api.ErrShort)
		unread(t, fmt.Sprint(n, " added, none there"), slices.Concat([]byte{0, 1, 0}, number(n)), api.ErrShort)
		unread(t, fmt.Sprint(n, " dropped, one less there"), slices.Concat([]byte{0, 1}, number(n), bytes.Repeat([]byte{5}, int(n)-1)), api.ErrShort)
	}
	unread(t, "257 dropped, none there", []byte{0, 1, 0x81, 1}, api.ErrCount)
	unread(t, "257 added, none there", []byte{0, 1, 0, 0x81, 1}, api.ErrCount)
	for _, n := range []int{257, 1000} {
		unread(t, fmt.Sprint(n, " dropped"), laid(Edit{Drop: counted(n)}), api.ErrCount)
		unread(t, fmt.Sprint(n, " added"), laid(Edit{Add: row(n, 1, 1)}), api.ErrCount)
	}
	unread(t, "too many of both, a number above 2^40 first", slices.Concat(number(lastSeq+1), number(1), number(257)), api.ErrArg)
	unread(t, "257 dropped, a number above 2^40 behind", slices.Concat([]byte{0, 1}, number(257), bytes.Repeat(number(lastSeq+1), 257)), api.ErrCount)
	unread(t, "257 added, a length above 96 behind", slices.Concat([]byte{0, 1, 0}, number(257), []byte{1, 1, 1, 97}), api.ErrCount)
	unread(t, "a number above 2^40 dropped, 257 added", slices.Concat([]byte{0, 1, 1}, number(lastSeq+1), number(257)), api.ErrArg)
}

// What no version may have is an edit all the same: Apply refuses it.
func TestDecodeOfWhatMayNotBe(t *testing.T) {
	for what, m := range wrongMetas() {
		d := Edit{Add: []Meta{m}, Next: 5}
		encoded(t, what, d)
		if want, why := modelEncode(d); why == api.OK {
			if x, e := Decode(want); e != api.OK || !sameEdit(x, d) {
				t.Errorf("P11.2: Decode, %s: %v, error %d", what, x, e)
			}
		}
	}
}

// Every change of one octet is either another edit's octets or refused, as the model says.
func TestDecodeOfChangedOctets(t *testing.T) {
	for _, d := range []Edit{{Drop: []int{300, 2}, Add: []Meta{table(128, 1, "a", "bc")}, Seq: 1 << 40, Next: 9}, {Seq: 1, Next: 1}} {
		for at := range laid(d) {
			for x := range 256 {
				c := laid(d)
				c[at] = byte(x)
				want, why := modelDecode(c)
				if got, e := Decode(c); e != why || !sameEdit(got, want) {
					t.Fatalf("P11.2: Decode(%x): %v, error %d; want %v, error %d", c, got, e, want, why)
				} else if e == api.OK {
					encoded(t, "changed octets", got)
				}
			}
		}
	}
}
