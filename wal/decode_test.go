package wal

import (
	"bytes"
	"math"
	"math/rand"
	"slices"
	"testing"

	"tickler/api"
)

// decoded fails unless Decode of x answers the batch.
func decoded(t *testing.T, promise string, x []byte, want Batch) {
	t.Helper()
	if b, e := Decode(x); e != api.OK || !same(b, want) {
		t.Errorf("%s: Decode(%x, %d octets): Seq %d, %d changes, error %d; want Seq %d, %d changes", promise, begins(x), len(x), b.Seq, len(b.Changes), e, want.Seq, len(want.Changes))
	}
}

// refused fails unless Decode of x answers the error and nothing beside it.
func refused(t *testing.T, what string, x []byte, want api.Errno) {
	t.Helper()
	if b, e := Decode(x); b.Seq != 0 || len(b.Changes) != 0 || e != want {
		t.Errorf("P6.1: %s: Decode(%x, %d octets): Seq %d, %d changes, error %d; want none, error %d", what, begins(x), len(x), b.Seq, len(b.Changes), e, want)
	}
}

// hole is a place of a batch's octets where a number stands: what lies ahead of it, what behind, and whether it is a text's length.
type hole struct {
	what          string
	length        bool
	ahead, behind []byte
}

// holes: each place at which a number stands, in batches of several changes.
func holes() []hole {
	one := []byte{1, 1, 'a', 1, 'x'} // a = x
	two := []byte{2, 1, 'b'}         // b is gone
	return []hole{
		{"Seq", false, nil, slices.Concat([]byte{1}, one)},
		{"how many", false, []byte{5}, one},
		{"how many, of a higher Seq", false, counted(top), slices.Concat(one, two)},
		{"a key's length", true, []byte{5, 1, 1}, []byte{'a', 1, 'x'}},
		{"a key's length, gone", true, []byte{5, 1, 2}, []byte{'a'}},
		{"a value's length", true, []byte{5, 1, 1, 1, 'a'}, []byte{'x'}},
		{"the second key's length", true, slices.Concat([]byte{5, 2}, one, []byte{2}), []byte{'b'}},
		{"the third key's length", true, slices.Concat([]byte{5, 3}, one, two, []byte{1}), []byte{'c', 0}},
		{"the third value's length", true, slices.Concat([]byte{5, 3}, one, two, []byte{1, 1, 'c'}), []byte("yyy")},
	}
}

// P6.1: Decode

func TestDecodeExample(t *testing.T) {
	decoded(t, "P6.1", []byte{1, 1, 1, 1, 0x61, 1, 0x78}, Batch{1, []api.Change{put("a", "x")}})
	decoded(t, "P6.1", []byte{0x80, 0x80, 2, 2, 1, 0x61, 1, 2, 0x62, 0x63, 0}, Batch{128, []api.Change{gone("a"), put("bc", "")}})
}

func TestDecodeTellsTheBatch(t *testing.T) {
	for _, b := range samples() {
		decoded(t, "P6.1", laid(b), b)
	}
}

func TestDecodeOfNothing(t *testing.T) {
	refused(t, "nil", nil, api.ErrShort)
	refused(t, "empty", []byte{}, api.ErrShort)
}

func TestDecodeOfWhatEndsAhead(t *testing.T) {
	for _, b := range samples() {
		x := laid(b)
		for cut := range x {
			if len(x) > 3000 && cut > 700 && cut < len(x)-700 && cut%97 != 0 {
				continue
			}
			refused(t, "cut off", slices.Clone(x[:cut]), api.ErrShort)
			// What stands behind the end is not read.
			refused(t, "cut off, with the rest in the room behind", x[:cut], api.ErrShort)
		}
	}
}

func TestDecodeOfANumberCutOff(t *testing.T) {
	for _, h := range holes() {
		for _, b := range [][]byte{{}, {0x80}, {0xbf}, {0xc0}, {0xc1, 0}, {0xe0, 0x20, 0}, {0xff}, bytes.Repeat([]byte{0xff}, 8)} {
			refused(t, h.what+" cut off", slices.Concat(h.ahead, b), api.ErrShort)
		}
	}
}

func TestDecodeOfANumberInTooManyOctets(t *testing.T) {
	for _, h := range holes() {
		for k := 2; k <= 9; k++ {
			for _, n := range []uint64{0, 1, 100, 1<<(7*(k-1)) - 1} {
				refused(t, h.what+" in too many octets", slices.Concat(h.ahead, wide(n, k), h.behind), api.ErrRange)
				refused(t, h.what+" in too many octets, nothing behind", slices.Concat(h.ahead, wide(n, k)), api.ErrRange)
			}
		}
	}
}

// aboves: numbers above 2^40, some of which an int would take for one below.
func aboves() []uint64 {
	return []uint64{1<<40 + 1, 1<<40 + 2, 1 << 41, 1<<42 - 1, 1 << 42, 1 << 49, 1 << 56, 1<<56 + 1, math.MaxInt64, 1 << 63, 1<<63 + 1, math.MaxUint64 - 4, math.MaxUint64}
}

func TestDecodeOfANumberAboveTheMost(t *testing.T) {
	for _, h := range holes() {
		for _, n := range aboves() {
			refused(t, h.what+" above 2^40", slices.Concat(h.ahead, counted(n), h.behind), api.ErrRange)
			refused(t, h.what+" above 2^40, nothing behind", slices.Concat(h.ahead, counted(n)), api.ErrRange)
		}
	}
}

func TestDecodeOfALengthAboveTheMost(t *testing.T) {
	for _, h := range holes() {
		if !h.length {
			continue
		}
		for _, n := range []uint64{1<<16 + 1, 1<<16 + 2, 1 << 17, 1<<21 - 1, 1 << 21, 1 << 32, 1<<32 + 1, 1 << 39, 1 << 40} {
			refused(t, h.what+" above 2^16", slices.Concat(h.ahead, counted(n), h.behind), api.ErrLong)
			refused(t, h.what+" above 2^16, nothing behind", slices.Concat(h.ahead, counted(n)), api.ErrLong)
		}
		whole := slices.Concat(h.ahead, text(filled(1<<16+1)), h.behind)
		refused(t, h.what+" above 2^16, and all that it needs", whole, api.ErrLong)
	}
}

func TestDecodeOfALengthThatNothingFollows(t *testing.T) {
	for _, h := range holes() {
		if !h.length {
			continue
		}
		for _, n := range []uint64{1, 96, 97, 128, 512, 513, 1<<16 - 1, 1 << 16} {
			refused(t, h.what+", and nothing behind", slices.Concat(h.ahead, counted(n)), api.ErrShort)
			refused(t, h.what+", and one octet too few", slices.Concat(h.ahead, counted(n), make([]byte, n-1)), api.ErrShort)
		}
	}
}

func TestDecodeOfTooLongAKeyOrValue(t *testing.T) {
	for _, n := range []int{97, 128, 513, 1<<16 - 1, 1 << 16} {
		refused(t, "a long key", laid(Batch{1, []api.Change{put(filled(n), "x")}}), api.ErrName)
		refused(t, "a long key, gone", laid(Batch{1, []api.Change{gone(filled(n))}}), api.ErrName)
	}
	for _, n := range []int{513, 1<<16 - 1, 1 << 16} {
		refused(t, "a long value", laid(Batch{1, []api.Change{put("a", filled(n))}}), api.ErrLong)
	}
}

func TestDecodeOfAKindThatIsNone(t *testing.T) {
	one := []byte{1, 1, 'a', 1, 'x'}
	for kind := range 256 {
		if kind == 1 || kind == 2 {
			continue
		}
		for n, ahead := range [][]byte{{9, 1}, slices.Concat([]byte{9, 2}, one), slices.Concat([]byte{9, 3}, one, one)} {
			refused(t, "a kind that is none, nothing behind", append(slices.Clone(ahead), byte(kind)), api.ErrKind)
			refused(t, "a kind that is none", slices.Concat(ahead, []byte{byte(kind)}, one[1:]), api.ErrKind)
			refused(t, "a kind that is none, a longer length", slices.Concat(ahead, []byte{byte(kind), 0x80, byte(n)}), api.ErrKind)
		}
	}
}

func TestDecodeOfTooManyChanges(t *testing.T) {
	for _, n := range []uint64{65, 66, 127, 128, 129, 16384, 1<<16 + 1, 1 << 32, 1<<40 - 1, 1 << 40} {
		refused(t, "too many changes, nothing behind", slices.Concat([]byte{1}, counted(n)), api.ErrCount)
		refused(t, "too many changes, a kind that is none", slices.Concat([]byte{1}, counted(n), []byte{3, 0x80}), api.ErrCount)
	}
	for _, n := range []int{65, 66, 200} {
		refused(t, "too many changes, all of them there", laid(Batch{1, many(n)}), api.ErrCount)
		refused(t, "too many changes, Seq 0", laid(Batch{0, many(n)}), api.ErrCount)
	}
}

func TestDecodeOfSomethingLeft(t *testing.T) {
	for _, b := range samples() {
		for _, tail := range []string{"\x00", "\x01", "\x80", "something left", string(laid(b))} {
			refused(t, "something left", append(laid(b), tail...), api.ErrTail)
		}
	}
}

func TestDecodeOfWhatMayNotBe(t *testing.T) {
	for _, seq := range []int{0, top + 1, top + 63, 1<<40 - 1, 1 << 40} {
		b := Batch{seq, many(3)}
		refused(t, "Seq", laid(b), api.ErrRange)
		refused(t, "Seq, something left", append(laid(b), 0), api.ErrTail)
		refused(t, "Seq, no change", laid(Batch{seq, nil}), api.ErrRange)
	}
	refused(t, "no change", []byte{1, 0}, api.ErrCount)
	refused(t, "no change, something left", []byte{1, 0, 0}, api.ErrTail)
	refused(t, "no key", []byte{1, 1, 1, 0, 1, 'x'}, api.ErrName)
	refused(t, "no key, gone", []byte{1, 1, 2, 0}, api.ErrName)
	refused(t, "no key, something left", []byte{1, 1, 2, 0, 0}, api.ErrTail)
	refused(t, "a Del with what a value would be", []byte{1, 1, 2, 1, 'a', 1, 'x'}, api.ErrTail)
	refused(t, "a long value, something left", append(laid(Batch{1, []api.Change{put("a", filled(513))}}), 0), api.ErrTail)
	refused(t, "a long value, then no key", laid(Batch{1, []api.Change{put("a", filled(513)), gone("")}}), api.ErrLong)
	refused(t, "no key, then a long value", laid(Batch{1, []api.Change{gone(""), put("a", filled(513))}}), api.ErrName)
	for _, n := range []int{1, 2, 63} {
		refused(t, "no key, the last", laid(Batch{1, append(many(n), gone(""))}), api.ErrName)
	}
}

// TestErrorsComeAsTheOctetsDo: of two faults the one further ahead in the octets counts, whatever Check would say.
func TestErrorsComeAsTheOctetsDo(t *testing.T) {
	one := []byte{1, 1, 'a', 1, 'x'}
	refused(t, "Seq 0, then too many changes", []byte{0, 65}, api.ErrCount)
	refused(t, "Seq 0, then cut off", []byte{0, 1}, api.ErrShort)
	refused(t, "Seq above 2^40, then too many changes", slices.Concat(counted(1<<40+1), []byte{65}), api.ErrRange)
	refused(t, "too many changes, then a kind that is none", []byte{1, 65, 9}, api.ErrCount)
	refused(t, "a kind that is none, then a long length", slices.Concat([]byte{1, 1, 9}, counted(1<<17)), api.ErrKind)
	refused(t, "a long length, then a kind that is none", slices.Concat([]byte{1, 2, 1}, counted(1<<17), []byte{9}), api.ErrLong)
	refused(t, "a change, a kind that is none, then a tail", slices.Concat([]byte{1, 2}, one, []byte{0, 0, 0, 0}), api.ErrKind)
	refused(t, "no key, then a kind that is none", slices.Concat([]byte{1, 2}, []byte{2, 0}, []byte{3}), api.ErrKind)
	refused(t, "no key, then cut off", []byte{1, 2, 2, 0}, api.ErrShort)
	refused(t, "a long value, then a long length", slices.Concat([]byte{1, 2, 1, 1, 'a'}, text(filled(513)), []byte{1}, counted(1<<17)), api.ErrLong)
	refused(t, "a long key, then a value of a longer length", slices.Concat([]byte{1, 1, 1}, text(filled(97)), wide(3, 2)), api.ErrRange)
}

// P6.3

func TestDecodeOfEncodeIsTheBatch(t *testing.T) {
	for _, b := range samples() {
		x, e := Encode(b)
		if e != api.OK {
			t.Errorf("P6.3: Encode of Seq %d, %d changes: error %d", b.Seq, len(b.Changes), e)
		}
		decoded(t, "P6.3", x, b)
	}
}

// near: batches' octets with some of them changed, so that many are nearly a batch.
func near(dice *rand.Rand) []byte {
	x := laid(Batch{dice.Intn(200), many(dice.Intn(4))})
	for range dice.Intn(3) {
		at := dice.Intn(len(x))
		switch dice.Intn(4) {
		case 0:
			x[at] = byte(dice.Intn(256))
		case 1:
			x[at] = byte(dice.Intn(4))
		case 2:
			x = slices.Insert(x, at, byte(dice.Intn(4)))
		case 3:
			x = slices.Delete(x, at, min(len(x), at+1+dice.Intn(3)))
		}
		if len(x) == 0 {
			return nil
		}
	}
	return x
}

func TestWhatDecodeTakesIsEncodeOfIt(t *testing.T) {
	dice := rand.New(rand.NewSource(6))
	taken := 0
	for range 50000 {
		x := near(dice)
		b, e := Decode(x)
		if want, wrong := modelDecode(x); e != wrong || !same(b, want) {
			t.Fatalf("P6.1: Decode(%x): %v, error %d; want %v, error %d", x, b, e, want, wrong)
		}
		if e != api.OK {
			continue
		}
		taken++
		if again, e := Encode(b); e != api.OK || !bytes.Equal(again, x) {
			t.Fatalf("P6.3: Decode took %x, but Encode of it is %x, error %d", x, again, e)
		}
	}
	if taken < 5000 {
		t.Errorf("P6.3: only %d were taken", taken)
	}
}
