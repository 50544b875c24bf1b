package wal

import (
	"bytes"
	"math"
	"math/rand"
	"slices"
	"strings"
	"testing"

	"tickler/api"
)

// counted: a number's octets, laid by its bits alone: as many ones ahead as there are octets behind the first.
func counted(n uint64) []byte {
	for k := 1; k < 9; k++ {
		if n>>(7*k) == 0 {
			return wide(n, k)
		}
	}
	return wide(n, 9)
}

// wide: a number in k octets, whether it needs them or not.
func wide(n uint64, k int) []byte {
	b := make([]byte, k)
	for i := range k {
		b[k-1-i] = byte(n >> (8 * i))
	}
	b[0] |= ^byte(0xff >> (k - 1))
	return b
}

// text: the octets of a text and its length.
func text(s string) []byte {
	return append(counted(uint64(len(s))), s...)
}

// laid: a batch's octets, laid without Encode, whether it may be or not.
func laid(b Batch) []byte {
	x := slices.Concat(counted(uint64(b.Seq)), counted(uint64(len(b.Changes))))
	for _, c := range b.Changes {
		if c.Del {
			x = slices.Concat(x, []byte{2}, text(c.Key))
		} else {
			x = slices.Concat(x, []byte{1}, text(c.Key), text(c.Value))
		}
	}
	return x
}

// filled: a text of n octets of all sorts.
func filled(n int) string {
	b := make([]byte, n)
	rand.New(rand.NewSource(int64(n))).Read(b)
	return string(b)
}

// put: a key's new value.
func put(key, value string) api.Change {
	return api.Change{Key: key, Value: value}
}

// gone: a key that is gone.
func gone(key string) api.Change {
	return api.Change{Key: key, Del: true}
}

// many: n changes of all kinds.
func many(n int) []api.Change {
	var l []api.Change
	for i := range n {
		if i%3 == 1 {
			l = append(l, gone(filled(i%96+1)))
		} else {
			l = append(l, put(filled(96-i%96), filled(i*i%513)))
		}
	}
	return l
}

// full: n changes of the longest keys and values.
func full(n int) []api.Change {
	return slices.Repeat([]api.Change{put(filled(96), filled(512))}, n)
}

const top = 1<<40 - 64

// samples: batches that may be, at all edges.
func samples() []Batch {
	l := []Batch{
		{1, []api.Change{put("a", "x")}},
		{2, []api.Change{gone("a")}},
		{3, []api.Change{put("a", "")}},
		{4, []api.Change{put("a", "x"), gone("a"), put("a", ""), put("a", "x")}},
		{5, []api.Change{put("\x00", "\x00"), put("\xff", "\xff"), gone("\x80")}},
		{6, full(64)},
		{7, slices.Repeat([]api.Change{gone(filled(96))}, 64)},
		{8, slices.Repeat([]api.Change{put("k", "")}, 64)},
		{top, many(64)},
	}
	for _, seq := range []int{1, 127, 128, 16383, 16384, 1<<21 - 1, 1 << 21, 1<<28 - 1, 1 << 28, 1<<35 - 1, 1 << 35, top - 1, top} {
		l = append(l, Batch{seq, many(seq%5 + 1)})
	}
	for _, n := range []int{1, 2, 63, 64} {
		l = append(l, Batch{n, many(n)})
	}
	for _, n := range []int{1, 2, 95, 96} {
		l = append(l, Batch{n, []api.Change{put(filled(n), "v"), gone(filled(n))}})
	}
	for _, n := range []int{0, 1, 127, 128, 511, 512} {
		l = append(l, Batch{n + 1, []api.Change{put("k", filled(n))}})
	}
	return l
}

// refusals: batches that may not be, and why.
type refusal struct {
	what string
	b    Batch
	want api.Errno
}

func refusals() []refusal {
	one := []api.Change{put("a", "x")}
	var l []refusal
	for _, seq := range []int{0, -1, -64, top + 1, top + 2, top + 63, 1 << 40, 1<<40 + 1, 1 << 41, math.MaxInt, math.MinInt} {
		l = append(l, refusal{"Seq", Batch{seq, one}, api.ErrRange})
	}
	l = append(l,
		refusal{"no batch at all", Batch{}, api.ErrRange},
		refusal{"no change", Batch{1, nil}, api.ErrCount},
		refusal{"no change", Batch{top, []api.Change{}}, api.ErrCount},
	)
	for _, n := range []int{65, 66, 128, 129, 1000, 70000} {
		l = append(l, refusal{"too many changes", Batch{1, slices.Repeat(one, n)}, api.ErrCount})
	}
	wrong := []refusal{
		{"no key", Batch{1, []api.Change{put("", "x")}}, api.ErrName},
		{"no key, gone", Batch{1, []api.Change{gone("")}}, api.ErrName},
		{"a key of 97", Batch{1, []api.Change{put(filled(97), "x")}}, api.ErrName},
		{"a key of 97, gone", Batch{1, []api.Change{gone(filled(97))}}, api.ErrName},
		{"a key of 70000", Batch{1, []api.Change{put(filled(70000), "x")}}, api.ErrName},
		{"a value of 513", Batch{1, []api.Change{put("a", filled(513))}}, api.ErrLong},
		{"a value of 70000", Batch{1, []api.Change{put("a", filled(70000))}}, api.ErrLong},
		{"a Del with a value", Batch{1, []api.Change{{Key: "a", Del: true, Value: "x"}}}, api.ErrArg},
		{"a Del with a value of a nought", Batch{1, []api.Change{{Key: "a", Del: true, Value: "\x00"}}}, api.ErrArg},
		{"a Del with a value of 512", Batch{1, []api.Change{{Key: "a", Del: true, Value: filled(512)}}}, api.ErrArg},
	}
	for _, r := range wrong {
		c := r.b.Changes[0]
		l = append(l, r,
			refusal{r.what + ", the second", Batch{9, []api.Change{one[0], c}}, r.want},
			refusal{r.what + ", ahead of another", Batch{9, []api.Change{c, one[0]}}, r.want},
			refusal{r.what + ", the last of 64", Batch{top, append(many(63), c)}, r.want})
	}
	return append(l, disorders()...)
}

// disorders: batches that may not be for two reasons, and which of them counts.
func disorders() []refusal {
	noKey, long := put("", "x"), put("a", filled(513))
	odd := api.Change{Key: "a", Del: true, Value: "x"}
	all := api.Change{Del: true, Value: filled(513)}
	return []refusal{
		{"Seq and no change", Batch{0, nil}, api.ErrRange},
		{"Seq and 65 changes", Batch{top + 1, many(65)}, api.ErrRange},
		{"Seq and no key", Batch{0, []api.Change{noKey}}, api.ErrRange},
		{"65 changes, no key", Batch{1, slices.Repeat([]api.Change{noKey}, 65)}, api.ErrCount},
		{"65 changes, the last without a key", Batch{1, append(many(64), noKey)}, api.ErrCount},
		{"no key, a long value, a Del", Batch{1, []api.Change{all}}, api.ErrName},
		{"no key and a Del with a value", Batch{1, []api.Change{{Del: true, Value: "x"}}}, api.ErrName},
		{"a Del with a long value", Batch{1, []api.Change{{Key: "a", Del: true, Value: filled(513)}}}, api.ErrLong},
		{"a long value, then no key", Batch{1, []api.Change{long, noKey}}, api.ErrLong},
		{"a Del with a value, then no key", Batch{1, []api.Change{odd, noKey}}, api.ErrArg},
		{"a Del with a value, then a long one", Batch{1, []api.Change{odd, long}}, api.ErrArg},
		{"no key, then a long value", Batch{1, []api.Change{noKey, long}}, api.ErrName},
	}
}

// same tells whether two batches are one, a nil list being an empty one.
func same(a, b Batch) bool {
	return a.Seq == b.Seq && slices.Equal(a.Changes, b.Changes)
}

// begins: the first octets of b, to be told.
func begins(b []byte) []byte {
	return b[:min(len(b), 24)]
}

// P6.1: Check

func TestCheckOfWhatMayBe(t *testing.T) {
	for _, b := range samples() {
		if e := Check(b); e != api.OK {
			t.Errorf("P6.1: Check of Seq %d, %d changes: error %d", b.Seq, len(b.Changes), e)
		}
	}
}

func TestCheckOfWhatMayNotBe(t *testing.T) {
	for _, r := range refusals() {
		if e := Check(r.b); e != r.want {
			t.Errorf("P6.1: Check of %s (Seq %d, %d changes): error %d; want %d", r.what, r.b.Seq, len(r.b.Changes), e, r.want)
		}
	}
}

func TestCheckOfEachLength(t *testing.T) {
	for n := range 600 {
		keyed, valued := api.OK, api.OK
		if n < 1 || n > 96 {
			keyed = api.ErrName
		}
		if n > 512 {
			valued = api.ErrLong
		}
		s := strings.Repeat("s", n)
		if e := Check(Batch{1, []api.Change{put(s, "x")}}); e != keyed {
			t.Errorf("P6.1: Check of a key of %d: error %d; want %d", n, e, keyed)
		}
		if e := Check(Batch{1, []api.Change{gone(s)}}); e != keyed {
			t.Errorf("P6.1: Check of a key of %d, gone: error %d; want %d", n, e, keyed)
		}
		if e := Check(Batch{1, []api.Change{put("k", s)}}); e != valued {
			t.Errorf("P6.1: Check of a value of %d: error %d; want %d", n, e, valued)
		}
	}
}

// P6.1: Encode

func TestEncodeExample(t *testing.T) {
	x, e := Encode(Batch{1, []api.Change{put("a", "x")}})
	if want := []byte{1, 1, 1, 1, 0x61, 1, 0x78}; e != api.OK || !bytes.Equal(x, want) {
		t.Errorf("P6.1: Encode of Seq 1, a = x: %x, error %d; want %x", x, e, want)
	}
}

func TestEncodeOfADel(t *testing.T) {
	x, e := Encode(Batch{128, []api.Change{gone("a"), put("bc", "")}})
	if want := []byte{0x80, 0x80, 2, 2, 1, 0x61, 1, 2, 0x62, 0x63, 0}; e != api.OK || !bytes.Equal(x, want) {
		t.Errorf("P6.1: Encode of Seq 128, a gone, bc empty: %x, error %d; want %x", x, e, want)
	}
}

func TestEncodeLaysTheParts(t *testing.T) {
	for _, b := range samples() {
		x, e := Encode(b)
		if e != api.OK || !bytes.Equal(x, laid(b)) {
			t.Errorf("P6.1: Encode of Seq %d, %d changes: %x (%d octets), error %d; want %x (%d)", b.Seq, len(b.Changes), begins(x), len(x), e, begins(laid(b)), len(laid(b)))
		}
	}
}

func TestEncodeOfWhatMayNotBe(t *testing.T) {
	for _, r := range refusals() {
		if x, e := Encode(r.b); len(x) != 0 || e != r.want {
			t.Errorf("P6.1: Encode of %s: %x, error %d; want none, error %d", r.what, begins(x), e, r.want)
		}
	}
}
