package block

import (
	"bytes"
	"fmt"
	"math"
	"slices"
	"strings"
	"testing"

	"tickler/api"
	"tickler/sum"
)

// refused fails unless Decode and Seek of b answer that error and nothing beside it.
func refused(t *testing.T, what string, b []byte, want api.Errno) {
	t.Helper()
	if l, e := Decode(b); len(l) != 0 || e != want {
		t.Errorf("P9.1: Decode, %s: %d versions, error %d; want none, error %d", what, len(l), e, want)
	}
	if x, ok, e := Seek(b, "key/00", math.MaxInt); x != (api.Entry{}) || ok || e != want {
		t.Errorf("P9.1: Seek, %s: %v, %t, error %d; want none, error %d", what, x, ok, e, want)
	}
}

// corrupt fails unless octets that are guarded anew are refused as no block.
func corrupt(t *testing.T, what string, bare []byte) {
	t.Helper()
	refused(t, what, sum.Guard(bare), api.ErrCorrupt)
}

// changed fails unless rows that are changed at one place, all else laid as it should be, are no block.
func changed(t *testing.T, what string, l []api.Entry, i int, change func(*row)) {
	t.Helper()
	rows := rowsOf(l)
	change(&rows[i])
	if bytes.Equal(bareOf(rows), bareOf(rowsOf(l))) {
		t.Fatalf("the test itself: %s, version %d: nothing is changed", what, i)
	}
	corrupt(t, fmt.Sprint(what, ", version ", i, " of ", len(l)), bareOf(rows))
}

// few: lists of few versions, for tests that go through all places.
func few() map[string][]api.Entry {
	return map[string][]api.Entry{
		"the example": example(),
		"one":         {put("a", 1)},
		"many 5":      many(5),
		"many 9":      many(9),
		"one key":     oneKey(6),
		"growing":     growing(8),
		"a long one":  {holds(strings.Repeat("k", 96), 1<<40, strings.Repeat("v", 130)), gone(strings.Repeat("k", 96), 1<<20)},
	}
}

// P9.2

func TestDecodeOfEncode(t *testing.T) {
	for what, l := range lists() {
		b, e := Encode(l)
		if e != api.OK {
			t.Fatalf("P9.1: Encode of %s: error %d", what, e)
		}
		if back, e := Decode(b); e != api.OK || !slices.Equal(back, l) {
			t.Errorf("P9.2: Decode of Encode of %s: %v, error %d; want %v", what, back, e, l)
		}
	}
}

func TestDecodeByHand(t *testing.T) {
	bare := "\x00\x02\x02\x00\x01ab" + "\x02\x01\x01\x01\x01cv" + "\x00\x00" + "\x01"
	if l, e := Decode(sum.Guard([]byte(bare))); e != api.OK || !slices.Equal(l, example()) {
		t.Errorf("P9.1: Decode of the example: %v, error %d", l, e)
	}
}

func TestWhatDecodeTakesIsEncodeOfIt(t *testing.T) {
	for what, l := range few() {
		bare := bareOf(rowsOf(l))
		taken := 0
		for i := range bare {
			for x := range 256 {
				turned := slices.Clone(bare)
				turned[i] = byte(x)
				b := sum.Guard(turned)
				agreed(t, fmt.Sprint(what, ", octet ", i, " is ", x), b, l[0].Key, math.MaxInt)
				if _, e := Decode(b); e == api.OK {
					taken++
				}
			}
		}
		if taken <= len(bare) {
			t.Errorf("the test itself: %s: %d taken of %d octets turned", what, taken, len(bare))
		}
	}
}

func TestOneOctetMoreOrLess(t *testing.T) {
	for what, l := range few() {
		bare := bareOf(rowsOf(l))
		for i := range len(bare) + 1 {
			for _, x := range []byte{0, 1, 2, 'a', 0x80, 0xff} {
				agreed(t, fmt.Sprint(what, ", ", x, " put in at ", i), sum.Guard(slices.Insert(slices.Clone(bare), i, x)), l[0].Key, math.MaxInt)
			}
			if i < len(bare) {
				agreed(t, fmt.Sprint(what, ", octet ", i, " taken out"), sum.Guard(slices.Delete(slices.Clone(bare), i, i+1)), l[0].Key, math.MaxInt)
			}
		}
	}
}

// P9.1: Decode of octets whose sum does not fit

func TestDecodeOfFewOctets(t *testing.T) {
	refused(t, "nil", nil, api.ErrShort)
	for n := range 4 {
		refused(t, fmt.Sprint(n, " octets 00"), make([]byte, n), api.ErrShort)
		refused(t, fmt.Sprint(n, " octets ff"), bytes.Repeat([]byte{0xff}, n), api.ErrShort)
	}
	for n := 4; n < 20; n++ {
		refused(t, fmt.Sprint(n, " octets 00"), make([]byte, n), api.ErrCorrupt)
		refused(t, fmt.Sprint(n, " octets ff"), bytes.Repeat([]byte{0xff}, n), api.ErrCorrupt)
	}
}

func TestDecodeOfCutOff(t *testing.T) {
	for what, l := range lists() {
		b := laid(l)
		for n := range b {
			if n > 20 && n < len(b)-10 && len(b) > 2000 && n%997 != 0 {
				continue
			}
			want := api.ErrCorrupt
			if n < 4 {
				want = api.ErrShort
			}
			refused(t, fmt.Sprint(what, ", cut off at ", n), b[:n], want)
			if len(b)-n >= 4 && n > 0 {
				refused(t, fmt.Sprint(what, ", without the first ", n), b[n:], api.ErrCorrupt)
			}
		}
	}
}

func TestDecodeOfATurnedOctet(t *testing.T) {
	for what, l := range few() {
		b := laid(l)
		for i := range b {
			for x := 1; x < 256; x++ {
				turned := slices.Clone(b)
				turned[i] ^= byte(x)
				if l, e := Decode(turned); len(l) != 0 || e != api.ErrCorrupt {
					t.Errorf("P9.1: Decode of %s, octet %d turned by %02x: %d versions, error %d", what, i, x, len(l), e)
				}
			}
			turned := slices.Clone(b)
			turned[i] ^= 0x10
			refused(t, fmt.Sprint(what, ", octet ", i, " turned"), turned, api.ErrCorrupt)
		}
	}
}

func TestDecodeOfOneTooMany(t *testing.T) {
	for what, l := range lists() {
		b := laid(l)
		if len(b) > 2000 {
			continue
		}
		// Octets 00 behind a text that is guarded leave its sum fitting: that there is too much shows in the versions alone.
		for n := range 8 {
			refused(t, fmt.Sprint(what, ", with ", n+1, " octets 00 behind"), append(slices.Clone(b), make([]byte, n+1)...), api.ErrCorrupt)
		}
		for x := range 256 {
			refused(t, fmt.Sprint(what, ", with ", x, " behind"), append(slices.Clone(b), byte(x)), api.ErrCorrupt)
			refused(t, fmt.Sprint(what, ", with ", x, " ahead"), append([]byte{byte(x)}, b...), api.ErrCorrupt)
		}
		refused(t, what+", twice", slices.Repeat(b, 2), api.ErrCorrupt)
		corrupt(t, what+", guarded twice", b)
	}
}

// P9.1: Decode of octets that are guarded anew behind a change

func TestLessInCommonThanThereIs(t *testing.T) {
	for _, l := range lists() {
		for i, x := range l {
			for less := 1; less <= commonOf(l, i); less++ {
				if less > 1 && (less < commonOf(l, i) || len(l) > 20) {
					continue
				}
				changed(t, fmt.Sprint(less, " less in common"), l, i, func(r *row) { *r = rowOf(x, commonOf(l, i)-less) })
			}
		}
	}
}

func TestAFourthOneHasNothingInCommon(t *testing.T) {
	tried := 0
	for _, l := range lists() {
		for i := 4; i < len(l); i += 4 {
			for n := 1; n <= shared(l[i-1].Key, l[i].Key); n++ {
				if n > 1 && n < shared(l[i-1].Key, l[i].Key) {
					continue
				}
				tried++
				changed(t, fmt.Sprint("a fourth one with ", n, " in common"), l, i, func(r *row) { *r = rowOf(l[i], n) })
			}
		}
	}
	if tried < 100 {
		t.Errorf("the test itself: %d tried", tried)
	}
}

func TestMoreInCommonThanTheKeyAheadHas(t *testing.T) {
	for _, l := range few() {
		for i := range l {
			ahead := 0
			if i > 0 {
				ahead = len(l[i-1].Key)
			}
			for _, n := range []uint64{uint64(ahead) + 1, uint64(ahead) + 2, 97, 127, 128, 513, 1 << 16, 1 << 31, 1 << 32, 1 << 40, 1<<40 + 1, 1<<63 - 1, 1 << 63, math.MaxUint64} {
				changed(t, fmt.Sprint(n, " in common"), l, i, func(r *row) { r.common = number(n) })
				changed(t, fmt.Sprint(n, " in common, nothing left"), l, i, func(r *row) { r.common, r.left, r.rest = number(n), number(0), "" })
			}
		}
	}
}

func TestAnotherNumberInCommonOrLeft(t *testing.T) {
	for what, l := range few() {
		for i := range l {
			for n := range uint64(130) {
				rows := rowsOf(l)
				rows[i].common = number(n)
				agreed(t, fmt.Sprint(what, ", version ", i, ": ", n, " in common"), sum.Guard(bareOf(rows)), l[i].Key, math.MaxInt)
				rows = rowsOf(l)
				rows[i].left = number(n)
				agreed(t, fmt.Sprint(what, ", version ", i, ": ", n, " left"), sum.Guard(bareOf(rows)), l[i].Key, math.MaxInt)
			}
		}
	}
}

func TestLengthsBeyondTheEnd(t *testing.T) {
	for _, l := range few() {
		for i := range l {
			for _, n := range []uint64{90, 96, 97, 200, 512, 513, 1 << 14, 1 << 16, 1 << 31, 1<<32 + 1, 1 << 40, 1<<62 + 1, 1<<63 - 1, 1 << 63, math.MaxUint64 - 1, math.MaxUint64} {
				if n != uint64(len(l[i].Key)) {
					changed(t, fmt.Sprint(n, " left"), l, i, func(r *row) { r.left = number(n) })
				}
				changed(t, fmt.Sprint("a value of ", n), l, i, func(r *row) { r.length = number(n) })
				changed(t, fmt.Sprint(n, " left and a value as long"), l, i, func(r *row) { r.left, r.length = number(n), number(n) })
			}
		}
		last := len(l) - 1
		changed(t, "a value longer by one", l, last, func(r *row) { r.length = number(uint64(len(r.value) + 1)) })
		changed(t, "a key longer by one", l, last, func(r *row) { r.left = number(uint64(len(r.rest) + 1)) })
	}
}

func TestNumbersWrittenOtherwise(t *testing.T) {
	for _, l := range few() {
		for i, x := range l {
			common := uint64(commonOf(l, i))
			for k := 2; k <= 9; k++ {
				what := fmt.Sprint("in ", k, " octets: ")
				if k > len(number(common)) {
					changed(t, what+"in common", l, i, func(r *row) { r.common = wide(common, k) })
				}
				changed(t, what+"left", l, i, func(r *row) { r.left = wide(uint64(len(r.rest)), k) })
				if k > len(number(uint64(x.Seq))) {
					changed(t, what+"Seq", l, i, func(r *row) { r.seq = wide(uint64(x.Seq), k) })
				}
				if k > len(number(uint64(len(x.Value)))) {
					changed(t, what+"the value's length", l, i, func(r *row) { r.length = wide(uint64(len(x.Value)), k) })
				}
			}
		}
	}
}

func TestOtherPlacesOfEachFourthOne(t *testing.T) {
	for what, l := range lists() {
		b, starts := body(rowsOf(l))
		count := byte(len(starts))
		if len(b) > 5000 && len(l) < 64 {
			continue
		}
		for k, at := range starts {
			for _, other := range []int{0, at - 1, at + 1, at ^ 256, at ^ 1<<15, len(b), 1<<16 - 1} {
				if other < 0 || other == at {
					continue
				}
				turned := slices.Clone(starts)
				turned[k] = other
				corrupt(t, fmt.Sprint(what, ": start ", k, " is ", other), joined(b, turned, count))
			}
			corrupt(t, fmt.Sprint(what, ": without start ", k), joined(b, slices.Delete(slices.Clone(starts), k, k+1), count-1))
			corrupt(t, fmt.Sprint(what, ": start ", k, " twice"), joined(b, slices.Insert(slices.Clone(starts), k, at), count+1))
			if k > 0 {
				turned := slices.Clone(starts)
				turned[k-1], turned[k] = turned[k], turned[k-1]
				corrupt(t, fmt.Sprint(what, ": starts ", k-1, " and ", k, " turned"), joined(b, turned, count))
			}
		}
		corrupt(t, what+": one start more, at the end", joined(b, append(slices.Clone(starts), len(b)), count+1))
		corrupt(t, what+": the lowest octet first", joined(b, []int{1 << 8}, 1))
		corrupt(t, what+": an octet behind the versions", joined(append(slices.Clone(b), 0), starts, count))
		for n := range 256 {
			near := n < 40 || n > 250
			if byte(n) != count && (near || len(b) < 500) && (n < 3 || len(b) < 5000) {
				corrupt(t, fmt.Sprint(what, ": ", n, " starts are told"), joined(b, starts, byte(n)))
			}
		}
	}
}

func TestAStartOfEachVersion(t *testing.T) {
	l := many(9)
	b, _ := body(rowsOf(l))
	for stride := 1; stride <= 9; stride++ {
		if stride == 4 {
			continue
		}
		var starts []int
		for i := 0; i < len(l); i += stride {
			ahead, _ := body(rowsOf(l)[:i])
			starts = append(starts, len(ahead))
		}
		corrupt(t, fmt.Sprint("a start each ", stride), joined(b, starts, byte(len(starts))))
	}
}

func TestVersionsOutOfOrderAreNoBlock(t *testing.T) {
	for what, l := range few() {
		for i := range len(l) - 1 {
			turned := slices.Clone(l)
			turned[i], turned[i+1] = turned[i+1], turned[i]
			corrupt(t, fmt.Sprint(what, ": versions ", i, " and ", i+1, " turned"), bareOf(rowsOf(turned)))
			turned = slices.Clone(l)
			turned[i+1] = turned[i]
			corrupt(t, fmt.Sprint(what, ": version ", i, " twice"), bareOf(rowsOf(turned)))
		}
		corrupt(t, what+": twice", bareOf(rowsOf(slices.Repeat(l, 2))))
	}
}

func TestVersionsThatMayNotStandAreNoBlock(t *testing.T) {
	for what, x := range wrong() {
		if x.Kind < 0 || x.Kind > 255 {
			continue
		}
		for at := range 6 {
			l := []api.Entry{put("a", 9), put("a", 8), put("b", 7), put("c", 6), put("d", 5), put("e", 4)}[:at]
			l = append(l, x, put(strings.Repeat("n", 40), 5))
			corrupt(t, fmt.Sprint(what, ", version ", at), bareOf(rowsOf(l)))
		}
	}
	k := strings.Repeat("k", 96)
	corrupt(t, "96 octets in common and one left", bareOf([]row{rowOf(gone(k, 1), 0), rowOf(gone(k+"k", 1), 96)}))
	corrupt(t, "95 octets in common and two left", bareOf([]row{rowOf(gone(k, 1), 0), rowOf(gone(k[:95]+"zz", 1), 95)}))
	for _, kind := range []byte{0, 3, 4, 127, 128, 255} {
		for _, l := range few() {
			for i := range l {
				changed(t, fmt.Sprint("Kind ", kind), l, i, func(r *row) { r.kind = kind })
			}
		}
	}
}

func TestNoneAndTooManyAreNoBlock(t *testing.T) {
	corrupt(t, "nothing", nil)
	corrupt(t, "no versions, no starts", []byte{0})
	corrupt(t, "no versions, one start", []byte{0, 0, 1})
	corrupt(t, "no versions, two starts", []byte{0, 0, 0, 0, 2})
	for n := range 256 {
		corrupt(t, fmt.Sprint("the octet ", n), []byte{byte(n)})
		corrupt(t, fmt.Sprint("no versions, ", n, " starts"), joined(nil, make([]int, n), byte(n)))
		corrupt(t, fmt.Sprint(n, " starts, one octet too few"), joined(nil, make([]int, n), byte(n))[min(1, n):])
	}
	for _, n := range []int{65, 66, 67, 68, 69, 96, 128} {
		for what, list := range map[string]func(int) []api.Entry{"many": many, "one key": oneKey} {
			b, starts := body(rowsOf(list(n)))
			corrupt(t, fmt.Sprint(what, ", ", n, " versions"), joined(b, starts, byte(len(starts))))
			corrupt(t, fmt.Sprint(what, ", ", n, " versions, 16 starts"), joined(b, starts[:16], 16))
		}
	}
	l := oneKey(1100)
	b, starts := body(rowsOf(l))
	corrupt(t, "1100 versions", joined(b, starts, byte(len(starts))))
	if l, e := Decode(laid(many(64))); len(l) != 64 || e != api.OK {
		t.Errorf("P9.1: Decode of 64 versions: %d, error %d", len(l), e)
	}
}

// P1 of DOC.md

func TestFewOctetsCannotTellMuch(t *testing.T) {
	long := row{number(0), number(1 << 20), number(1 << 40), number(0), 2, strings.Repeat("k", 1<<20), ""}
	rows := []row{long}
	for i := range 60 {
		rows = append(rows, row{number(1 << 20), number(0), number(uint64(1<<30 - i)), number(0), 2, "", ""})
	}
	corrupt(t, "a key of 2^20 octets that all have in common", bareOf(rows))
	corrupt(t, "2^20 octets 00", make([]byte, 1<<20))
	corrupt(t, "2^20 octets ff", bytes.Repeat([]byte{0xff}, 1<<20))
	corrupt(t, "a version 2^18 times", append(bytes.Repeat(rowOf(gone("a", 1), 0).octets(), 1<<18), 0, 0, 1))
	// Each key has all of the one ahead in common: together they would have some 2^30 octets.
	rows = nil
	for i := range 4096 {
		rows = append(rows, row{number(uint64(96 * i)), number(96), number(1), number(0), 2, strings.Repeat("k", 96), ""})
	}
	b := sum.Guard(bareOf(rows))
	refused(t, "4096 keys, each 96 octets longer", b, api.ErrCorrupt)
	if n := testing.AllocsPerRun(1, func() { Decode(b) }); n > 1000 {
		t.Errorf("P1: Decode of 4096 versions makes %v pieces of memory, though a block has at most 64 versions", n)
	}
}
