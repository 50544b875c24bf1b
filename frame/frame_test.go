package frame

import (
	"bytes"
	"encoding/binary"
	"hash/crc32"
	"math"
	"math/bits"
	"math/rand"
	"slices"
	"testing"

	"tickler/api"
)

// checksum: the sum of b by the library, whose register stands the other way round.
func checksum(b []byte) uint32 {
	turned := slices.Clone(b)
	for i, x := range turned {
		turned[i] = bits.Reverse8(x)
	}
	return bits.Reverse32(^crc32.ChecksumIEEE(turned))
}

// counted: a length's octets, of those that a record may have, and of some above them.
func counted(n int) []byte {
	switch {
	case n < 1<<7:
		return []byte{byte(n)}
	case n < 1<<14:
		return []byte{0x80 | byte(n>>8), byte(n)}
	}
	return []byte{0xc0 | byte(n>>16), byte(n >> 8), byte(n)}
}

// summed: b with its sum behind it.
func summed(b []byte) []byte {
	return binary.BigEndian.AppendUint32(slices.Clone(b), checksum(b))
}

// laid: a record's octets, laid by the library alone, so that they share nothing with Put.
func laid(r Record) []byte {
	return summed(slices.Concat(counted(len(r.Data)), []byte{byte(r.Kind)}, r.Data))
}

// filled: n octets that differ from each other.
func filled(n int) []byte {
	b := make([]byte, n)
	rand.New(rand.NewSource(int64(n))).Read(b)
	return b
}

// lengths: the edges at which a length's octets become more, the last that may be, and some between.
func lengths() []int {
	return []int{0, 1, 2, 5, 126, 127, 128, 129, 255, 256, 1000, 16383, 16384, 16385, 65535, 65536}
}

// samples: records of many lengths and kinds.
func samples() []Record {
	l := []Record{{}, {Kind: 0, Data: []byte{}}, {Kind: 1, Data: []byte("a")}, {Kind: 255}, {Kind: 128, Data: make([]byte, 40)}, {Kind: 255, Data: bytes.Repeat([]byte{0xff}, 40)}}
	for i, n := range lengths() {
		l = append(l, Record{Kind: i * 17 % 256, Data: filled(n)})
	}
	return l
}

// same tells whether two records are one, nil data being empty data.
func same(a, b Record) bool {
	return a.Kind == b.Kind && bytes.Equal(a.Data, b.Data)
}

// begins: the first octets of b, to be told.
func begins(b []byte) []byte {
	return b[:min(len(b), 24)]
}

// putRefused fails unless Put of r answers the error and nothing beside it.
func putRefused(t *testing.T, r Record, want api.Errno) {
	t.Helper()
	if b, e := Put(r); len(b) != 0 || e != want {
		t.Errorf("P5.1: Put of kind %d, %d octets: %x, error %d; want none, error %d", r.Kind, len(r.Data), begins(b), e, want)
	}
}

// getRefused fails unless Get of b answers the error and nothing beside it, and Scan tells nothing.
func getRefused(t *testing.T, what string, b []byte, want api.Errno) {
	t.Helper()
	if r, n, e := Get(b); r.Kind != 0 || len(r.Data) != 0 || n != 0 || e != want {
		t.Errorf("P5.1: %s: Get(%x, %d octets): kind %d, %x, %d octets, error %d; want none, error %d", what, begins(b), len(b), r.Kind, begins(r.Data), n, e, want)
	}
	if l, n := Scan(b); len(l) != 0 || n != 0 {
		t.Errorf("P5.1: %s: Scan(%x, %d octets): %d records, %d octets; want none", what, begins(b), len(b), len(l), n)
	}
}

// P5.1: Put

func TestPutExample(t *testing.T) {
	want := []byte{0x01, 0x01, 0x61}
	b, e := Put(Record{Kind: 1, Data: []byte("a")})
	if e != api.OK || len(b) != 7 || !bytes.Equal(b[:3], want) || !bytes.Equal(b, summed(want)) {
		t.Errorf("P5.1: Put of kind 1, a: %x, error %d; want %x", b, e, summed(want))
	}
}

func TestPutLaysLengthKindDataSum(t *testing.T) {
	for _, r := range samples() {
		b, e := Put(r)
		if e != api.OK || !bytes.Equal(b, laid(r)) {
			t.Errorf("P5.1: Put of kind %d, %d octets: %x, error %d; want %x", r.Kind, len(r.Data), begins(b), e, begins(laid(r)))
		}
	}
}

func TestPutOfEachKind(t *testing.T) {
	for kind := range 256 {
		r := Record{Kind: kind, Data: []byte("data")}
		b, e := Put(r)
		if e != api.OK || !bytes.Equal(b, laid(r)) {
			t.Errorf("P5.1: Put of kind %d: %x, error %d; want %x", kind, b, e, laid(r))
		}
	}
}

// noKinds: below 0 and above 255, some of which a lone octet would not tell from one that is.
func noKinds() []int {
	return []int{-1, -2, -255, -256, -257, 256, 257, 511, 512, 1 << 16, 1 << 32, math.MaxInt, math.MinInt}
}

func TestPutOfNoKind(t *testing.T) {
	for _, kind := range noKinds() {
		putRefused(t, Record{Kind: kind, Data: []byte("a")}, api.ErrKind)
		putRefused(t, Record{Kind: kind}, api.ErrKind)
	}
}

func TestPutOfTooLong(t *testing.T) {
	for _, n := range []int{api.MaxData + 1, api.MaxData + 2, 2 * api.MaxData, 1 << 20} {
		putRefused(t, Record{Kind: 0, Data: make([]byte, n)}, api.ErrLong)
		putRefused(t, Record{Kind: 255, Data: make([]byte, n)}, api.ErrLong)
	}
}

func TestKindGoesAheadOfLong(t *testing.T) {
	for _, kind := range noKinds() {
		putRefused(t, Record{Kind: kind, Data: make([]byte, api.MaxData+1)}, api.ErrKind)
	}
}

// P5.1: Get

func TestGetTellsTheRecord(t *testing.T) {
	for _, r := range samples() {
		b := laid(r)
		for _, behind := range []string{"", "\x00", "something behind it", string(b)} {
			got, n, e := Get(append(slices.Clone(b), behind...))
			if e != api.OK || !same(got, r) || n != len(b) {
				t.Errorf("P5.1: Get of kind %d, %d octets, with %d behind: kind %d, %d octets of data, %d in all, error %d", r.Kind, len(r.Data), len(behind), got.Kind, len(got.Data), n, e)
			}
		}
	}
}

func TestGetOfEachKind(t *testing.T) {
	for kind := range 256 {
		want := Record{Kind: kind, Data: []byte("data")}
		if r, n, e := Get(laid(want)); e != api.OK || !same(r, want) || n != len(laid(want)) {
			t.Errorf("P5.1: Get of kind %d: %v, %d octets, error %d", kind, r, n, e)
		}
	}
}

func TestGetOfNothing(t *testing.T) {
	getRefused(t, "nil", nil, api.ErrShort)
	getRefused(t, "empty", []byte{}, api.ErrShort)
}

func TestGetOfALengthCutOff(t *testing.T) {
	for _, b := range [][]byte{{0x80}, {0xbf}, {0xc0}, {0xc1, 0}, {0xe0, 0x20, 0}, {0xff}, bytes.Repeat([]byte{0xff}, 8)} {
		getRefused(t, "a length cut off", b, api.ErrShort)
	}
}

func TestGetOfALengthInTooManyOctets(t *testing.T) {
	for _, b := range [][]byte{{0x80, 1}, {0x80, 127}, {0xc0, 0, 1}, {0xc0, 0x3f, 0xff}, {0xe0, 0, 0, 5}, {0xff, 0, 0, 0, 0, 0, 0, 0, 9}} {
		getRefused(t, "a longer length than needed", b, api.ErrRange)
		getRefused(t, "a longer length than needed, and all the rest", summed(append(b, "\x01a"...)), api.ErrRange)
	}
}

func TestRangeGoesAheadOfLong(t *testing.T) {
	getRefused(t, "2^56 - 1 in nine octets, not eight", []byte{0xff, 0, 0xff, 0xff, 0xff, 0xff, 0xff, 0xff, 0xff}, api.ErrRange)
	getRefused(t, "65537 in four octets, not three", []byte{0xe0, 1, 0, 1}, api.ErrRange)
}

func TestGetOfTooLong(t *testing.T) {
	above := [][]byte{
		{0xc1, 0, 1}, // 65537
		{0xc1, 0xff, 0xff},
		{0xdf, 0xff, 0xff},
		{0xe0, 0x20, 0, 0},
		{0xf0, 0xff, 0xff, 0xff, 0xff},
		{0xff, 0x7f, 0xff, 0xff, 0xff, 0xff, 0xff, 0xff, 0xff}, // the highest int
		{0xff, 0x80, 0, 0, 0, 0, 0, 0, 0},                      // what an int would take for the least
		{0xff, 0xff, 0xff, 0xff, 0xff, 0xff, 0xff, 0xff, 0xf0}, // what an int would take for -16
		{0xff, 0xff, 0xff, 0xff, 0xff, 0xff, 0xff, 0xff, 0xff}, // the highest of all
	}
	for _, b := range above {
		getRefused(t, "a length above 65536, nothing behind it", b, api.ErrLong)
		getRefused(t, "a length above 65536, and a sum that fits", summed(b), api.ErrLong)
		getRefused(t, "a length above 65536, some octets behind it", append(slices.Clone(b), filled(100)...), api.ErrLong)
	}
	whole := laid(Record{Kind: 1, Data: filled(api.MaxData + 1)})
	getRefused(t, "65537 octets, and all that they need", whole, api.ErrLong)
}

func TestGetOfWhatEndsAhead(t *testing.T) {
	for _, r := range samples() {
		b := laid(r)
		for cut := range b {
			if len(b) > 300 && cut > 8 && cut < len(b)-8 && cut%4099 != 0 {
				continue
			}
			getRefused(t, "cut off", slices.Clone(b[:cut]), api.ErrShort)
			// What stands behind the end is not read.
			getRefused(t, "cut off, with the rest in the room behind", b[:cut], api.ErrShort)
		}
	}
}

// turns: the octet at a place with each of its bits turned, and all of them.
func turns() []byte {
	return []byte{1, 2, 4, 8, 0x10, 0x20, 0x40, 0x80, 0xff}
}

func TestGetOfAnotherSum(t *testing.T) {
	for _, r := range samples() {
		b := laid(r)
		first := len(counted(len(r.Data)))
		for at := first; at < len(b); at++ {
			if len(b) > 300 && at > first+8 && at < len(b)-8 && at%8209 != 0 {
				continue
			}
			for _, x := range turns() {
				b[at] ^= x
				getRefused(t, "an octet turned", b, api.ErrCorrupt)
				b[at] ^= x
			}
		}
	}
}

func TestGetOfAnotherLength(t *testing.T) {
	b := laid(Record{Kind: 7, Data: filled(10)})
	for length := range 128 {
		want := api.ErrCorrupt
		if length > 10 {
			want = api.ErrShort
		}
		if length == 10 {
			continue
		}
		b[0] = byte(length)
		getRefused(t, "another length", b, want)
	}
}

func TestShortGoesAheadOfCorrupt(t *testing.T) {
	b := laid(Record{Kind: 1, Data: []byte("data")})
	b[1] ^= 1
	getRefused(t, "whole", b, api.ErrCorrupt)
	getRefused(t, "cut off", b[:len(b)-1], api.ErrShort)
}

func TestGetTakesWhatPutPut(t *testing.T) {
	for _, r := range samples() {
		b, _ := Put(r)
		if got, n, e := Get(b); e != api.OK || !same(got, r) || n != len(b) {
			t.Errorf("P5.1: Get of Put of kind %d, %d octets: kind %d, %d octets, error %d", r.Kind, len(r.Data), got.Kind, len(got.Data), e)
		}
	}
}
