package bloom

import (
	"bytes"
	"math"
	"strings"
	"testing"

	"tickler/api"
)

// P8.1: Hash

func TestHashExamples(t *testing.T) {
	for _, c := range []struct {
		key  string
		want uint64
	}{
		{"", 0xcbf29ce484222325},
		{"a", 0xaf63dc4c8601ec8c},
		{"b", 0xaf63df4c8601f1a5},
		{"\x00", 0xaf63bd4c8601b7df},
		{"foobar", 0x85944171f73967e8},
	} {
		if h := Hash(c.key); h != c.want {
			t.Errorf("P8.1: Hash(%q): %016x, want %016x", c.key, h, c.want)
		}
	}
}

func TestHashOfEveryOctet(t *testing.T) {
	all := ""
	for x := range 256 {
		one := string([]byte{byte(x)})
		all += one
		for _, key := range []string{one, one + one, "a" + one, one + "a", all} {
			if h := Hash(key); h != hashed(key) {
				t.Errorf("P8.1: Hash(%x): %016x, want %016x", key, h, hashed(key))
			}
		}
	}
}

func TestHashIsTheLibrarys(t *testing.T) {
	for _, key := range append(samples(), strings.Repeat("\xff", 1<<20), string(random(1, 70000))) {
		if h := Hash(key); h != hashed(key) {
			t.Errorf("P8.1: Hash of %d octets: %016x, want %016x", len(key), h, hashed(key))
		}
	}
}

// P8.1: Make

func TestMakeByHand(t *testing.T) {
	// By hand: of a in 8 bits the lower half 8601ec8c is 4, the upper af63dc4c with the lowest bit is 5 modulo 8.
	for _, c := range []struct {
		keys []string
		each int
		want Filter
	}{
		{[]string{"a"}, 1, Filter{1, []byte{1 << 4}}},
		{[]string{"a"}, 3, Filter{2, []byte{1<<4 | 1<<1}}},
		{[]string{"a"}, 5, Filter{3, []byte{1<<4 | 1<<1 | 1<<6}}},
		{[]string{"a"}, 6, Filter{4, []byte{1<<4 | 1<<1 | 1<<6 | 1<<3}}},
		{[]string{"a"}, 8, Filter{5, []byte{1<<4 | 1<<1 | 1<<6 | 1<<3 | 1<<0}}},
		{[]string{""}, 1, Filter{1, []byte{1 << 5}}},
		{nil, 10, Filter{7, []byte{0}}},
	} {
		if f, e := Make(c.keys, c.each); !same(f, c.want) || e != api.OK {
			t.Errorf("P8.1: Make(%q, %d): %s, error %d; want %s", c.keys, c.each, brief(f), e, brief(c.want))
		}
	}
}

func TestMakeSetsThePlacesAndNoOthers(t *testing.T) {
	for _, keys := range append(lists(), many(4095, "n"), many(4096, "n")) {
		for each := 1; each <= 16; each++ {
			if len(keys) > 200 && each%5 != 1 {
				continue
			}
			f, e := Make(keys, each)
			if want := filtered(keys, each); !same(f, want) || e != api.OK {
				t.Errorf("P8.1: Make of %d keys, each %d: %s, error %d; want %s", len(keys), each, brief(f), e, brief(want))
			}
		}
	}
}

func TestMakesKForEveryEach(t *testing.T) {
	for each := 1; each <= 16; each++ {
		for _, n := range []int{0, 1, 2, 50} {
			if f := made(t, many(n, "k"), each); f.K != kOf(each) {
				t.Errorf("P8.1: Make of %d keys, each %d: K %d, want %d", n, each, f.K, kOf(each))
			}
		}
	}
}

func TestHowManyOctetsMakeAnswers(t *testing.T) {
	for _, c := range []struct{ keys, each, octets int }{
		{0, 1, 1}, {0, 16, 1}, {1, 1, 1}, {1, 7, 1}, {1, 8, 1}, {1, 9, 2}, {1, 16, 2},
		{2, 4, 1}, {2, 5, 2}, {2, 10, 3}, {3, 8, 3}, {7, 1, 1}, {8, 1, 1}, {9, 1, 2}, {16, 1, 2}, {17, 1, 3}, {5, 5, 4},
		{4095, 1, 512}, {4096, 1, 512}, {4095, 15, 7679}, {4096, 15, 7680}, {4095, 16, 8190}, {4096, 16, 8192},
	} {
		if f := made(t, many(c.keys, "k"), c.each); len(f.Bits) != c.octets {
			t.Errorf("P8.1: Make of %d keys, each %d: %d octets, want %d", c.keys, c.each, len(f.Bits), c.octets)
		}
	}
}

func TestAKeyTwiceCountsTwice(t *testing.T) {
	once, twice := made(t, []string{"a"}, 8), made(t, []string{"a", "a"}, 8)
	if len(once.Bits) != 1 || len(twice.Bits) != 2 {
		t.Errorf("P8.1: Make of a, and of a twice: %s, %s", brief(once), brief(twice))
	}
}

func TestMakeRefuses(t *testing.T) {
	few, most, more := many(3, "k"), many(4096, "k"), many(4097, "k")
	for _, c := range []struct {
		what string
		keys []string
		each int
		want api.Errno
	}{
		{"each 0", few, 0, api.ErrRange},
		{"each 17", few, 17, api.ErrRange},
		{"each -1", few, -1, api.ErrRange},
		{"each -16", few, -16, api.ErrRange},
		{"the least each", few, math.MinInt, api.ErrRange},
		{"the greatest each", few, math.MaxInt, api.ErrRange},
		{"each 2^32 + 1", few, 1<<32 + 1, api.ErrRange},
		{"each 0, no keys", nil, 0, api.ErrRange},
		{"each 17, no keys", []string{}, 17, api.ErrRange},
		{"each 17, 4096 keys", most, 17, api.ErrRange},
		{"each 1, 4097 keys", more, 1, api.ErrCount},
		{"each 16, 4097 keys", more, 16, api.ErrCount},
		{"each 10, 70000 keys of no octets", make([]string, 70000), 10, api.ErrCount},
		{"each 0, 4097 keys", more, 0, api.ErrRange},
		{"each 17, 4097 keys", more, 17, api.ErrRange},
		{"each -1, 4097 keys", more, -1, api.ErrRange},
	} {
		if f, e := Make(c.keys, c.each); f.K != 0 || len(f.Bits) != 0 || e != c.want {
			t.Errorf("P8.1: Make, %s: %s, error %d; want none, error %d", c.what, brief(f), e, c.want)
		}
	}
}

func TestMakeTakesTheBounds(t *testing.T) {
	for _, n := range []int{0, 1, 4096} {
		for _, each := range []int{1, 16} {
			if f, e := Make(many(n, "k"), each); f.K != kOf(each) || e != api.OK {
				t.Errorf("P8.1: Make of %d keys, each %d: %s, error %d", n, each, brief(f), e)
			}
		}
	}
}

// P8.1: Has

func TestHasOfAnyFilter(t *testing.T) {
	for _, f := range filters() {
		for _, key := range append(samples()[:14], many(30, "asked ")...) {
			if ok, e := Has(f, key); ok != told(f, key) || e != api.OK {
				t.Errorf("P8.1: Has(%s, %q): %t, error %d; want %t", brief(f), key, ok, e, told(f, key))
			}
		}
	}
}

func TestHasAsksAllPlacesAndNoOthers(t *testing.T) {
	for k := 1; k <= 8; k++ {
		for _, n := range []int{1, 3, 7, 64, 1000, 8192} {
			for _, key := range samples()[:12] {
				set := placed(key, n*8, k)
				if ok, e := Has(Filter{k, laid(n, set)}, key); !ok || e != api.OK {
					t.Errorf("P8.1: Has(%q), K %d, %d octets, its places set: %t, error %d", key, k, n, ok, e)
				}
				for _, p := range set {
					b := bytes.Repeat([]byte{0xff}, n)
					b[p/8] -= 1 << (p % 8)
					if ok, e := Has(Filter{k, b}, key); ok || e != api.OK {
						t.Errorf("P8.1: Has(%q), K %d, %d octets, all but place %d set: %t, error %d", key, k, n, p, ok, e)
					}
				}
			}
		}
	}
}

func TestHasOfKeysThatWereNotPutIn(t *testing.T) {
	keys := many(1000, "in ")
	for each := 1; each <= 16; each++ {
		f := made(t, keys, each)
		wrong := 0
		for _, key := range many(1000, "out ") {
			ok, e := Has(f, key)
			if ok != told(f, key) || e != api.OK {
				t.Errorf("P8.1: Has(%q), each %d: %t, error %d", key, each, ok, e)
			}
			if ok {
				wrong++
			}
		}
		if each >= 10 && wrong > 50 {
			t.Errorf("P8.1: each %d: %d of 1000 keys that were not put in are told", each, wrong)
		}
	}
}

func TestHasOfAnEmptyFilter(t *testing.T) {
	for each := 1; each <= 16; each++ {
		f := made(t, nil, each)
		for _, key := range samples() {
			if ok, e := Has(f, key); ok || e != api.OK {
				t.Errorf("P8.1: Has(%.20q) of a filter without keys: %t, error %d", key, ok, e)
			}
		}
	}
}

func TestHasRefuses(t *testing.T) {
	for _, f := range wrongFilters() {
		for _, key := range samples()[:6] {
			if ok, e := Has(f, key); ok || e != api.ErrState {
				t.Errorf("P8.1: Has(%s, %q): %t, error %d; want error %d", brief(f), key, ok, e, api.ErrState)
			}
		}
	}
}

// P8.2

func TestEncodeExamples(t *testing.T) {
	for _, c := range []struct {
		f    Filter
		want []byte
	}{
		{Filter{1, []byte{0}}, []byte{1, 0}},
		{Filter{8, []byte{0xff}}, []byte{8, 0xff}},
		{Filter{7, []byte{1, 2, 3}}, []byte{7, 1, 2, 3}},
	} {
		if b, e := Encode(c.f); !bytes.Equal(b, c.want) || e != api.OK {
			t.Errorf("P8.2: Encode(%s): %x, error %d; want %x", brief(c.f), b, e, c.want)
		}
	}
}

func TestEncodeAndDecodeOfAnyFilter(t *testing.T) {
	for _, f := range filters() {
		want := bytes.Join([][]byte{{byte(f.K)}, f.Bits}, nil)
		b, e := Encode(f)
		if !bytes.Equal(b, want) || e != api.OK {
			t.Errorf("P8.2: Encode(%s): %d octets, error %d", brief(f), len(b), e)
		}
		if g, e := Decode(want); !same(g, f) || e != api.OK {
			t.Errorf("P8.2: Decode of the octets of %s: %s, error %d", brief(f), brief(g), e)
		}
	}
}

func TestEncodeRefuses(t *testing.T) {
	for _, f := range wrongFilters() {
		if b, e := Encode(f); len(b) != 0 || e != api.ErrState {
			t.Errorf("P8.2: Encode(%s): %d octets, error %d; want none, error %d", brief(f), len(b), e, api.ErrState)
		}
	}
}

func TestDecodeOfEveryFirstOctet(t *testing.T) {
	for x := range 256 {
		for _, n := range []int{1, 2, 8192} {
			bits := random(int64(x), n)
			f, e := Decode(append([]byte{byte(x)}, bits...))
			want, wrong := Filter{x, bits}, api.OK
			if x < 1 || x > 8 {
				want, wrong = Filter{}, api.ErrState
			}
			if !same(f, want) || e != wrong {
				t.Errorf("P8.2: Decode of first octet %d and %d more: %s, error %d; want error %d", x, n, brief(f), e, wrong)
			}
		}
	}
}

func TestDecodeOfManyLengths(t *testing.T) {
	for _, c := range []struct {
		n    int
		want api.Errno
	}{{0, api.ErrShort}, {1, api.ErrShort}, {2, api.OK}, {3, api.OK}, {8192, api.OK}, {8193, api.OK}, {8194, api.ErrState}, {8195, api.ErrState}, {1 << 17, api.ErrState}} {
		for _, x := range []byte{0, 1, 8, 9, 255} {
			b := bytes.Repeat([]byte{x}, c.n)
			want := c.want
			if want == api.OK && (x < 1 || x > 8) {
				want = api.ErrState
			}
			f, e := Decode(b)
			if e != want || e == api.OK && !same(f, Filter{int(x), b[1:]}) || e != api.OK && !same(f, Filter{}) {
				t.Errorf("P8.2: Decode of %d octets %02x: %s, error %d; want error %d", c.n, x, brief(f), e, want)
			}
		}
	}
}

// P8.3

func TestAKeyThatWasPutInIsThere(t *testing.T) {
	for _, keys := range append(lists(), many(4096, "n")) {
		for each := 1; each <= 16; each++ {
			f := made(t, keys, each)
			b, e := Encode(f)
			if e != api.OK {
				t.Errorf("P8.2: Encode of what Make answers of %d keys, each %d: error %d", len(keys), each, e)
			}
			back, e := Decode(b)
			if !same(back, f) || e != api.OK {
				t.Errorf("P8.2: back by way of its octets, %d keys, each %d: %s, error %d", len(keys), each, brief(back), e)
			}
			for _, key := range keys {
				if ok, e := Has(f, key); !ok || e != api.OK {
					t.Errorf("P8.3: Has(%.20q) of %d keys, each %d: %t, error %d", key, len(keys), each, ok, e)
				}
				if ok, e := Has(back, key); !ok || e != api.OK {
					t.Errorf("P8.3: Has(%.20q) of %d keys, each %d, read back: %t, error %d", key, len(keys), each, ok, e)
				}
			}
		}
	}
}

func TestAKeyStaysWhateverElseIsSet(t *testing.T) {
	for _, key := range samples() {
		f := made(t, []string{key, turned(key), key + "more"}, 10)
		for i := range f.Bits {
			f.Bits[i] |= byte(i * 37)
		}
		if ok, e := Has(f, key); !ok || e != api.OK {
			t.Errorf("P8.3: Has(%.20q), with more bits set: %t, error %d", key, ok, e)
		}
	}
}
