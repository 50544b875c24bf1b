package sum

import (
	"bytes"
	"encoding/binary"
	"fmt"
	"hash/crc32"
	"math/bits"
	"math/rand"
	"slices"
	"strings"
	"testing"
	"unsafe"

	"tickler/api"
)

// divided: the register by a long division of ones and noughts, written out bit by bit, so that it shares nothing with Extend.
func divided(c uint32, b []byte) uint32 {
	var row strings.Builder
	for _, x := range b {
		fmt.Fprintf(&row, "%08b", x)
	}
	line := []byte(row.String() + strings.Repeat("0", 32))
	divisor := "1" + fmt.Sprintf("%032b", 0x04c11db7)
	for i, x := range fmt.Sprintf("%032b", c) {
		line[i] ^= byte(x) - '0'
	}
	for len(line) > 32 {
		if line[0] == '1' {
			for i := range divisor {
				line[i] ^= divisor[i] - '0'
			}
		}
		line = line[1:]
	}
	var out uint32
	for _, x := range line {
		out = out<<1 | uint32(x-'0')
	}
	return out
}

// mirrored: the sum by the library's checksum, whose register stands the other way round.
func mirrored(b []byte) uint32 {
	turned := slices.Clone(b)
	for i, x := range turned {
		turned[i] = bits.Reverse8(x)
	}
	return bits.Reverse32(^crc32.ChecksumIEEE(turned))
}

// samples: texts of many lengths, the plain ones first.
func samples() [][]byte {
	l := [][]byte{nil, {}, {0}, {1}, {0x80}, {0xff}, []byte("a"), []byte("123456789"), make([]byte, 4), make([]byte, 40), bytes.Repeat([]byte{0xff}, 4), bytes.Repeat([]byte{0xff}, 40)}
	r := rand.New(rand.NewSource(3))
	for n := range 70 {
		b := make([]byte, n)
		r.Read(b)
		l = append(l, b)
	}
	return l
}

// registers: some that a text may begin with.
func registers() []uint32 {
	return []uint32{0, 1, 0x80000000, 0xffffffff, 0x04c11db7, 0x12345678, 0x00ff00ff, 0x7fffffff, 0x01000000}
}

// guarded: b and its sum, laid by the library.
func guarded(b []byte) []byte {
	return binary.BigEndian.AppendUint32(slices.Clone(b), mirrored(b))
}

// refused fails unless Bare of b answers the error and nothing beside it.
func refused(t *testing.T, promise string, b []byte, want api.Errno) {
	t.Helper()
	if x, e := Bare(b); len(x) != 0 || e != want {
		t.Errorf("%s: Bare(%x): %x, error %d; want none, error %d", promise, b, x, e, want)
	}
}

// P3.1

func TestSumExamples(t *testing.T) {
	for _, c := range []struct {
		s    string
		want uint32
	}{
		{"123456789", 0x0376e6e7},
		{"", 0xffffffff},
		{"\x00", 0x4e08bfb4},
		{"\xff", 0xffffff00},
		{"\xff\xff", 0xffff0000},
		{"\xff\xff\xff\xff", 0},
		{"\xff\xff\xff\xff\x00\x00\x00\x00", 0},
	} {
		if got := Sum([]byte(c.s)); got != c.want {
			t.Errorf("P3.1: Sum(%x): %08x, want %08x", c.s, got, c.want)
		}
	}
}

func TestExtendExamples(t *testing.T) {
	for _, c := range []struct {
		c    uint32
		s    string
		want uint32
	}{
		{0, "", 0},
		{0x12345678, "", 0x12345678},
		{0, "\x00", 0},
		{0, "\x01", 0x04c11db7},
		{0, "\x02", 0x09823b6e},
		{0x01000000, "\x00", 0x04c11db7},
		{0x00000001, "\x00", 0x00000100},
		{0x01000001, "\x00", 0x04c11cb7},
		{0x01000000, "\x01", 0},
		{0x00123456, "\x00", 0x12345600},
	} {
		if got := Extend(c.c, []byte(c.s)); got != c.want {
			t.Errorf("P3.1: Extend(%08x, %x): %08x, want %08x", c.c, c.s, got, c.want)
		}
	}
}

func TestSumIsTheLibrarys(t *testing.T) {
	for _, b := range samples() {
		if got := Sum(b); got != mirrored(b) {
			t.Errorf("P3.1: Sum(%x): %08x, want %08x", b, got, mirrored(b))
		}
		if got := Extend(0xffffffff, b); got != mirrored(b) {
			t.Errorf("P3.1: Extend(ffffffff, %x): %08x, want %08x", b, got, mirrored(b))
		}
	}
}

func TestExtendIsALongDivision(t *testing.T) {
	for _, c := range registers() {
		for _, b := range samples() {
			if got := Extend(c, b); got != divided(c, b) {
				t.Errorf("P3.1: Extend(%08x, %x): %08x, want %08x", c, b, got, divided(c, b))
			}
		}
		for x := range 256 {
			b := []byte{byte(x)}
			if got := Extend(c, b); got != divided(c, b) {
				t.Errorf("P3.1: Extend(%08x, %x): %08x, want %08x", c, b, got, divided(c, b))
			}
		}
	}
	for i := range 32 {
		for x := range 256 {
			c, b := uint32(1)<<i, []byte{byte(x)}
			if got := Extend(c, b); got != divided(c, b) {
				t.Errorf("P3.1: Extend(%08x, %x): %08x, want %08x", c, b, got, divided(c, b))
			}
		}
	}
}

// P3.2

func TestGuard(t *testing.T) {
	for _, b := range samples() {
		if got := Guard(b); !bytes.Equal(got, guarded(b)) {
			t.Errorf("P3.2: Guard(%x): %x, want %x", b, got, guarded(b))
		}
	}
	if got := Guard([]byte("123456789")); string(got) != "123456789\x03\x76\xe6\xe7" {
		t.Errorf("P3.2: Guard of 123456789: %x", got)
	}
	if got := Guard(nil); string(got) != "\xff\xff\xff\xff" {
		t.Errorf("P3.2: Guard of nothing: %x", got)
	}
}

func TestBare(t *testing.T) {
	for _, b := range samples() {
		if got, e := Bare(guarded(b)); !bytes.Equal(got, b) || e != api.OK {
			t.Errorf("P3.2: Bare(%x): %x, error %d; want %x", guarded(b), got, e, b)
		}
		if got, e := Bare(Guard(b)); !bytes.Equal(got, b) || e != api.OK {
			t.Errorf("P3.2: Bare of Guard(%x): %x, error %d", b, got, e)
		}
	}
}

func TestBareOfTooFew(t *testing.T) {
	for n := range 4 {
		for _, x := range []byte{0, 1, 0xff} {
			refused(t, "P3.2", bytes.Repeat([]byte{x}, n), api.ErrShort)
		}
	}
	refused(t, "P3.2", nil, api.ErrShort)
}

func TestBareOfAnotherSum(t *testing.T) {
	refused(t, "P3.2", make([]byte, 4), api.ErrCorrupt)
	refused(t, "P3.2", []byte("\xff\xff\xff\xfe"), api.ErrCorrupt)
	refused(t, "P3.2", []byte("abcd"), api.ErrCorrupt)
	for _, b := range samples() {
		sum := guarded(b)[len(b):]
		for i := range 4 {
			for x := 1; x < 256; x++ {
				wrong := guarded(b)
				wrong[len(b)+i] ^= byte(x)
				refused(t, "P3.2", wrong, api.ErrCorrupt)
			}
		}
		slices.Reverse(sum)
		if other := append(slices.Clone(b), sum...); !bytes.Equal(other, guarded(b)) {
			refused(t, "P3.2", other, api.ErrCorrupt)
		}
		if len(b) > 0 {
			refused(t, "P3.2", append(slices.Clone(b), guarded(b[1:])[len(b)-1:]...), api.ErrCorrupt)
		}
	}
}

// P3.3

func TestExtendGoesOn(t *testing.T) {
	for _, c := range registers() {
		for _, b := range samples() {
			whole := Extend(c, b)
			for k := range len(b) + 1 {
				if got := Extend(Extend(c, b[:k]), b[k:]); got != whole {
					t.Errorf("P3.3: Extend(%08x, %x) in two at %d: %08x, whole %08x", c, b, k, got, whole)
				}
			}
			one := c
			for i := range b {
				one = Extend(one, b[i:i+1])
			}
			if one != whole {
				t.Errorf("P3.3: Extend(%08x, %x) octet by octet: %08x, whole %08x", c, b, one, whole)
			}
		}
	}
	for _, b := range samples() {
		for k := range len(b) + 1 {
			if got := Extend(Sum(b[:k]), b[k:]); got != Sum(b) {
				t.Errorf("P3.3: Sum(%x) in two at %d: %08x, whole %08x", b, k, got, Sum(b))
			}
		}
	}
}

// P3.4

func TestSumOfGuardedIsNothing(t *testing.T) {
	for _, b := range samples() {
		if got := Sum(Guard(b)); got != 0 {
			t.Errorf("P3.4: Sum of Guard(%x): %08x", b, got)
		}
		if got := Sum(Guard(Guard(b))); got != 0 {
			t.Errorf("P3.4: Sum of Guard of Guard(%x): %08x", b, got)
		}
	}
}

// P3.5

// turned: b with those bits of pattern turned that stand from bit at on, the highest bit of an octet first.
func turned(b []byte, pattern uint32, at int) []byte {
	b = slices.Clone(b)
	for i := range 32 {
		if pattern>>(31-i)&1 == 1 {
			b[(at+i)/8] ^= 0x80 >> ((at + i) % 8)
		}
	}
	return b
}

func TestBitsInARowAreTold(t *testing.T) {
	for _, b := range samples()[:20] {
		g := Guard(b)
		for n := 1; n <= 32; n++ {
			row := ^uint32(0) << (32 - n)
			for at := range 8*len(g) - n + 1 {
				refused(t, "P3.5", turned(g, row, at), api.ErrCorrupt)
			}
		}
	}
}

func TestAnyBitsWithinARowAreTold(t *testing.T) {
	r := rand.New(rand.NewSource(5))
	g := Guard([]byte("a row of 32 bits stands anywhere"))
	for at := range 8*len(g) - 31 {
		for range 200 {
			pattern := r.Uint32()
			if pattern != 0 {
				refused(t, "P3.5", turned(g, pattern, at), api.ErrCorrupt)
			}
		}
		// The divisor without its highest or lowest bit is as long as 32 bits can come to it.
		refused(t, "P3.5", turned(g, 0x04c11db7, at), api.ErrCorrupt)
		refused(t, "P3.5", turned(g, 0x82608edb, at), api.ErrCorrupt)
	}
}

// P3.6

func TestSumsOfThree(t *testing.T) {
	r := rand.New(rand.NewSource(7))
	for n := range 90 {
		a, b, c, all := make([]byte, n), make([]byte, n), make([]byte, n), make([]byte, n)
		r.Read(a)
		r.Read(b)
		r.Read(c)
		for i := range n {
			all[i] = a[i] ^ b[i] ^ c[i]
		}
		if got := Sum(a) ^ Sum(b) ^ Sum(c); got != Sum(all) {
			t.Errorf("P3.6: Sums of %x, %x and %x: %08x together; of all three %08x", a, b, c, got, Sum(all))
		}
	}
}

// P3.7

// overlap tells whether two lists share an octet of memory, in the room behind them too.
func overlap(a, b []byte) bool {
	if cap(a) == 0 || cap(b) == 0 {
		return false
	}
	x, y := uintptr(unsafe.Pointer(unsafe.SliceData(a))), uintptr(unsafe.Pointer(unsafe.SliceData(b)))
	return x < y+uintptr(cap(b)) && y < x+uintptr(cap(a))
}

func TestWhatIsHandedInStays(t *testing.T) {
	for _, b := range append(samples(), Guard(nil), Guard([]byte("text")), []byte("textabcd")) {
		// Room behind the text, to see that nothing is laid there either.
		roomy := append(slices.Clone(b), "room behind it"...)
		was := slices.Clone(roomy)
		Sum(roomy[:len(b)])
		Extend(77, roomy[:len(b)])
		Guard(roomy[:len(b)])
		Bare(roomy[:len(b)])
		if !bytes.Equal(roomy, was) {
			t.Errorf("P3.7: %x became %x", was, roomy)
		}
	}
}

func TestAnswersAreNewMemory(t *testing.T) {
	for _, b := range samples() {
		roomy := append(slices.Clone(b), "room behind it"...)[:len(b)]
		g, again := Guard(roomy), Guard(roomy)
		if overlap(g, roomy) || overlap(g, again) {
			t.Errorf("P3.7: Guard(%x) shares memory", b)
		}
		x, e := Bare(g)
		y, _ := Bare(g)
		if e != api.OK || overlap(x, g) || overlap(x, y) {
			t.Errorf("P3.7: Bare(%x) shares memory, error %d", g, e)
		}
		if unsafe.SliceData(x) != nil && unsafe.SliceData(x) == unsafe.SliceData(g) {
			t.Errorf("P3.7: Bare(%x) keeps its place", g)
		}
		for i := range x {
			x[i] ^= 0xff
		}
		if !bytes.Equal(g, guarded(b)) || !bytes.Equal(y, b) {
			t.Errorf("P3.7: Bare's answer, changed, changed %x or %x", g, y)
		}
		for i := range g {
			g[i] ^= 0xff
		}
		if !bytes.Equal(again, guarded(b)) || !bytes.Equal(roomy, b) || !bytes.Equal(Guard(roomy), guarded(b)) {
			t.Errorf("P3.7: Guard's answer, changed, changed %x or %x", again, roomy)
		}
	}
}

// P1 of DOC.md: whatever the octets, the calls answer, and they agree with each other.

func FuzzAnyOctets(f *testing.F) {
	for _, b := range samples()[:20] {
		f.Add(uint32(0xffffffff), b)
		f.Add(uint32(0), Guard(b))
	}
	f.Fuzz(func(t *testing.T, c uint32, b []byte) {
		if got := Extend(c, b); got != divided(c, b) {
			t.Fatalf("P3.1: Extend(%08x, %x): %08x, want %08x", c, b, got, divided(c, b))
		}
		want := api.OK
		if len(b) < 4 {
			want = api.ErrShort
		} else if mirrored(b) != 0 {
			want = api.ErrCorrupt
		}
		x, e := Bare(b)
		if e != want || e != api.OK && len(x) != 0 || e == api.OK && !bytes.Equal(Guard(x), b) {
			t.Fatalf("P3.2: Bare(%x): %x, error %d; want error %d", b, x, e, want)
		}
	})
}
