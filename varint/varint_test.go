package varint

import (
	"bytes"
	"fmt"
	"math"
	"slices"
	"strconv"
	"strings"
	"testing"

	"tickler/api"
)

// spelled writes n in k octets by the chapter's words, as text of ones and zeros, so that it shares nothing with Put.
func spelled(n uint64, k int) []byte {
	head, width := strings.Repeat("1", 8), 64
	if k <= 8 {
		head, width = strings.Repeat("1", k-1)+"0", 7*k
	}
	text := head + fmt.Sprintf("%0*b", width, n)
	var b []byte
	for len(text) > 0 {
		x, err := strconv.ParseUint(text[:8], 2, 8)
		if err != nil {
			panic(err)
		}
		b = append(b, byte(x))
		text = text[8:]
	}
	return b
}

// span tells the least and the greatest number of k octets.
func span(k int) (uint64, uint64) {
	least, greatest := uint64(0), uint64(math.MaxUint64)
	if k > 1 {
		least = 1 << (7 * (k - 1))
	}
	if k < 9 {
		greatest = 1<<(7*k) - 1
	}
	return least, greatest
}

// draws makes count numbers of all sizes, the same ones at every run.
func draws(count int) []uint64 {
	l := make([]uint64, count)
	x := uint64(88172645463325252)
	for i := range l {
		x ^= x << 13
		x ^= x >> 7
		x ^= x << 17
		l[i] = x >> (i % 64)
	}
	return l
}

// samples: the edges of each count of octets and their neighbours, powers of two, and drawn numbers; sorted, each once.
func samples() []uint64 {
	l := []uint64{0, 1, math.MaxUint64 - 1, math.MaxUint64}
	for k := 1; k <= 9; k++ {
		least, greatest := span(k)
		l = append(l, least, least+1, greatest-1, greatest)
	}
	for i := range 64 {
		l = append(l, 1<<i-1, 1<<i, 1<<i+1)
	}
	l = append(l, draws(500)...)
	slices.Sort(l)
	return slices.Compact(l)
}

// refused fails unless Get of b answers the error and nothing beside it.
func refused(t *testing.T, what string, b []byte, want api.Errno) {
	t.Helper()
	if n, k, e := Get(b); n != 0 || k != 0 || e != want {
		t.Errorf("%s: Get(%x): %d, %d, error %d; want 0, 0, error %d", what, b, n, k, e, want)
	}
}

// P1.1

func TestPutExamples(t *testing.T) {
	for _, c := range []struct {
		n    uint64
		want string
	}{
		{0, "00"},
		{1, "01"},
		{127, "7f"},
		{128, "8080"},
		{300, "812c"},
		{1<<14 - 1, "bfff"},
		{1 << 14, "c04000"},
		{1<<21 - 1, "dfffff"},
		{1 << 49, "fe02000000000000"},
		{1<<56 - 1, "feffffffffffffff"},
		{1 << 56, "ff0100000000000000"},
		{1 << 63, "ff8000000000000000"},
		{math.MaxUint64, "ffffffffffffffffff"},
	} {
		if got := fmt.Sprintf("%x", Put(c.n)); got != c.want {
			t.Errorf("P1.1: Put(%d): %s, want %s", c.n, got, c.want)
		}
	}
}

func TestEdgesOfEachCount(t *testing.T) {
	for k := 1; k <= 9; k++ {
		least, greatest := span(k)
		for _, n := range []uint64{least, greatest} {
			if got := Size(n); got != k {
				t.Errorf("P1.1: Size(%d): %d, want %d", n, got, k)
			}
			want := spelled(n, k)
			if got := Put(n); !bytes.Equal(got, want) {
				t.Errorf("P1.1: Put(%d): %x, want %x", n, got, want)
			}
			if m, size, e := Get(want); m != n || size != k || e != api.OK {
				t.Errorf("P1.1: Get(%x): %d, %d, error %d", want, m, size, e)
			}
		}
	}
}

func TestPutIsSpelledByTheChapter(t *testing.T) {
	for _, n := range samples() {
		k := 1
		for _, greatest := span(k); n > greatest; _, greatest = span(k) {
			k++
		}
		if got := Size(n); got != k {
			t.Errorf("P1.1: Size(%d): %d, want %d", n, got, k)
		}
		if got, want := Put(n), spelled(n, k); !bytes.Equal(got, want) {
			t.Errorf("P1.1: Put(%d): %x, want %x", n, got, want)
		}
	}
}

func TestGetOfNothing(t *testing.T) {
	refused(t, "P1.1: nil", nil, api.ErrShort)
	refused(t, "P1.1: empty", []byte{}, api.ErrShort)
}

func TestGetOfCutOff(t *testing.T) {
	for _, n := range samples() {
		whole := Put(n)
		for cut := range whole {
			refused(t, "P1.1: cut off", whole[:cut], api.ErrShort)
		}
	}
}

func TestGetOfTooMany(t *testing.T) {
	for k := 2; k <= 9; k++ {
		for fewer := 1; fewer < k; fewer++ {
			least, greatest := span(fewer)
			for _, n := range []uint64{least, greatest} {
				long := spelled(n, k)
				refused(t, "P1.1: fewer would do", long, api.ErrRange)
				refused(t, "P1.1: fewer would do, more behind", append(long, 0xff), api.ErrRange)
			}
		}
	}
}

func TestShortGoesAheadOfRange(t *testing.T) {
	for k := 2; k <= 9; k++ {
		long := spelled(0, k)
		for cut := 1; cut < k; cut++ {
			refused(t, "P1.1: cut off, and fewer would do", long[:cut], api.ErrShort)
		}
	}
}

func TestGetLeavesWhatIsBehind(t *testing.T) {
	for _, n := range samples() {
		b := Put(n)
		for _, behind := range [][]byte{{0}, {0x7f}, {0x80}, {0xff}, Put(n), bytes.Repeat([]byte{0xff}, 20)} {
			if m, k, e := Get(slices.Concat(b, behind)); m != n || k != len(b) || e != api.OK {
				t.Errorf("P1.1: Get of Put(%d) and %x: %d, %d, error %d", n, behind, m, k, e)
			}
		}
	}
}

// P1.2

func TestZigAndZag(t *testing.T) {
	for _, c := range []struct {
		n int
		m uint64
	}{
		{0, 0}, {-1, 1}, {1, 2}, {-2, 3}, {2, 4}, {-3, 5}, {3, 6}, {-64, 127}, {64, 128},
		{math.MaxInt, math.MaxUint64 - 1},
		{math.MinInt, math.MaxUint64},
		{math.MaxInt - 1, math.MaxUint64 - 3},
		{math.MinInt + 1, math.MaxUint64 - 2},
		{1 << 62, 1 << 63},
		{-1 << 62, 1<<63 - 1},
	} {
		if m := Zig(c.n); m != c.m {
			t.Errorf("P1.2: Zig(%d): %d, want %d", c.n, m, c.m)
		}
		if n := Zag(c.m); n != c.n {
			t.Errorf("P1.2: Zag(%d): %d, want %d", c.m, n, c.n)
		}
	}
}

func TestZigOfZag(t *testing.T) {
	for _, m := range samples() {
		if back := Zig(Zag(m)); back != m {
			t.Errorf("P1.2: Zig(Zag(%d)): %d", m, back)
		}
		if n := int(m); Zag(Zig(n)) != n {
			t.Errorf("P1.2: Zag(Zig(%d)): %d", n, Zag(Zig(n)))
		}
	}
}

func TestAllTellsEachNumber(t *testing.T) {
	for _, want := range [][]uint64{{0}, {127, 128}, {math.MaxUint64, 0, 1 << 63, 5}, {7, 7, 7}, samples()} {
		var b []byte
		for _, n := range want {
			b = append(b, Put(n)...)
		}
		if got, e := All(b); !slices.Equal(got, want) || e != api.OK {
			t.Errorf("P1.2: All of %d numbers: %d numbers, error %d", len(want), len(got), e)
		}
	}
}

func TestAllOfNothing(t *testing.T) {
	for _, b := range [][]byte{nil, {}} {
		if l, e := All(b); len(l) != 0 || e != api.OK {
			t.Errorf("P1.2: All of no octets: %v, error %d", l, e)
		}
	}
}

func TestAllTellsTheFirstError(t *testing.T) {
	long, short := []byte{0x80, 1}, []byte{0xff, 1}
	for _, c := range []struct {
		name string
		b    []byte
		want api.Errno
	}{
		{"too long, alone", long, api.ErrRange},
		{"cut off, alone", short, api.ErrShort},
		{"too long, at first", slices.Concat(long, Put(300)), api.ErrRange},
		{"too long, in the midst", slices.Concat(Put(5), Put(300), long, Put(7)), api.ErrRange},
		{"too long, then cut off", slices.Concat(Put(5), long, Put(7), short), api.ErrRange},
		{"too long, twice", slices.Concat(long, Put(9), long), api.ErrRange},
		{"cut off, at the end", slices.Concat(Put(5), Put(1<<63), short), api.ErrShort},
		{"cut off by one octet", slices.Concat(Put(5), Put(1 << 63)[:8]), api.ErrShort},
	} {
		if l, e := All(c.b); len(l) != 0 || e != c.want {
			t.Errorf("P1.2: All of %s: %v, error %d; want error %d", c.name, l, e, c.want)
		}
	}
}

// P1.3

func TestThereAndBack(t *testing.T) {
	for _, n := range samples() {
		b := Put(n)
		if m, k, e := Get(b); m != n || k != len(b) || k != Size(n) || e != api.OK {
			t.Errorf("P1.3: Get(Put(%d)): %d, %d, error %d", n, m, k, e)
		}
	}
}

// backAgain fails unless what Get takes of b is Put of the number.
func backAgain(t *testing.T, b []byte) {
	t.Helper()
	n, k, e := Get(b)
	if e != api.OK {
		refused(t, "P1.3: refused", b, e)
		return
	}
	if k < 1 || k > len(b) || !bytes.Equal(b[:k], Put(n)) {
		t.Errorf("P1.3: Get(%x): %d, %d; Put of it: %x", b, n, k, Put(n))
	}
}

func TestWhatGetTakesIsPutOfIt(t *testing.T) {
	for x := range 256 {
		backAgain(t, []byte{byte(x)})
		for y := range 256 {
			backAgain(t, []byte{byte(x), byte(y)})
			backAgain(t, []byte{byte(x), byte(y), 0, 0, 0, 0, 0, 0, 0})
			backAgain(t, []byte{byte(x), byte(y), 0xff, 0, 0, 0, 0, 0, 0, 1})
		}
	}
}

// P1.4

func TestInOrder(t *testing.T) {
	l := samples()
	for i, n := range l {
		for _, m := range l[i+1:] {
			a, b := Put(n), Put(m)
			if bytes.Compare(a, b) >= 0 {
				t.Fatalf("P1.4: %d is below %d, but %x not ahead of %x", n, m, a, b)
			}
		}
	}
}

func TestNoneBeginsAnother(t *testing.T) {
	l := samples()
	for i, n := range l {
		for j, m := range l {
			if i != j && bytes.HasPrefix(Put(m), Put(n)) {
				t.Fatalf("P1.4: %x of %d begins %x of %d", Put(n), n, Put(m), m)
			}
		}
	}
}

// P1.5

func TestPutAnswersNewMemory(t *testing.T) {
	for _, n := range samples() {
		a, b := Put(n), Put(n)
		want := slices.Clone(b)
		a = a[:cap(a)]
		for i := range a {
			a[i] ^= 0xff
		}
		if !bytes.Equal(b, want) || !bytes.Equal(Put(n), want) {
			t.Fatalf("P1.5: Put(%d) hands out the same octets twice", n)
		}
	}
}

func TestGetAndAllLeaveTheirOctets(t *testing.T) {
	for _, b := range [][]byte{
		slices.Concat(Put(1<<63), Put(300), Put(0)),
		slices.Concat(Put(300), []byte{0x80, 1}, Put(5)),
		slices.Concat(Put(300), []byte{0xff, 1}),
	} {
		was := slices.Clone(b)
		Get(b)
		All(b)
		if !bytes.Equal(b, was) {
			t.Errorf("P1.5: %x became %x", was, b)
		}
	}
}

func TestAllAnswersNewMemory(t *testing.T) {
	b := slices.Concat(Put(300), Put(5), Put(1<<63))
	first, _ := All(b)
	second, _ := All(b)
	clear(b)
	first = first[:cap(first)]
	for i := range first {
		first[i] = 1
	}
	if want := []uint64{300, 5, 1 << 63}; !slices.Equal(second, want) {
		t.Errorf("P1.5: All's answer became %v, want %v", second, want)
	}
}

// P1 of DOC.md: whatever the octets, the calls answer, and they agree with each other.
func FuzzAnyOctets(f *testing.F) {
	f.Add([]byte(nil))
	f.Add([]byte{0x80, 0x80, 0x7f, 0xff})
	f.Add(bytes.Repeat([]byte{0xff}, 30))
	f.Add(slices.Concat(Put(1<<63), Put(300), []byte{0xc0, 0, 0}, Put(1)))
	for _, n := range draws(64) {
		f.Add(slices.Concat(Put(n), Put(^n), Put(n)[:1]))
	}
	f.Fuzz(func(t *testing.T, b []byte) {
		backAgain(t, b)
		l, e := All(b)
		if e != api.OK {
			if len(l) != 0 || e != api.ErrShort && e != api.ErrRange {
				t.Errorf("P1.2: All(%x): %v, error %d", b, l, e)
			}
			return
		}
		var again []byte
		for _, n := range l {
			again = append(again, Put(n)...)
		}
		if !bytes.Equal(again, b) {
			t.Errorf("P1.3: All(%x): %v, which are %x", b, l, again)
		}
	})
}
