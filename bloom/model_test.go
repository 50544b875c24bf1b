package bloom

import (
	"bytes"
	"fmt"
	"hash/fnv"
	"math/big"
	"math/rand"
	"slices"
	"strings"
	"testing"

	"tickler/api"
)

// hashed: the hash of key by the library.
func hashed(key string) uint64 {
	h := fnv.New64a()
	h.Write([]byte(key))
	return h.Sum64()
}

// placed: the places of key in m bits with k, reckoned in whole numbers of any size from the hash's sixteen digits.
func placed(key string, m, k int) []int {
	digits := fmt.Sprintf("%016x", hashed(key))
	high, _ := new(big.Int).SetString(digits[:8], 16)
	low, _ := new(big.Int).SetString(digits[8:], 16)
	high.SetBit(high, 0, 1)
	var l []int
	for range k {
		l = append(l, int(new(big.Int).Mod(low, big.NewInt(int64(m))).Int64()))
		low.Add(low, high)
	}
	return l
}

// laid: so many octets with these bits set, and no others: the bits are written as ones and noughts, each octet's highest first.
func laid(octets int, set []int) []byte {
	row := bytes.Repeat([]byte("0"), octets*8)
	for _, p := range set {
		row[p/8*8+7-p%8] = '1'
	}
	n, _ := new(big.Int).SetString(string(row), 2)
	return n.FillBytes(make([]byte, octets))
}

// kOf: K for each, as the chapter's reckoning gives it by hand.
func kOf(each int) int {
	return []int{0, 1, 1, 2, 2, 3, 4, 4, 5, 6, 7, 7, 8, 8, 8, 8, 8}[each]
}

// octetsOf: how many octets so many bits need, at least 1.
func octetsOf(bits int) int {
	n := 1
	for n*8 < bits {
		n++
	}
	return n
}

// filtered: what Make should answer.
func filtered(keys []string, each int) Filter {
	n := octetsOf(len(keys) * each)
	var set []int
	for _, key := range keys {
		set = append(set, placed(key, n*8, kOf(each))...)
	}
	return Filter{kOf(each), laid(n, set)}
}

// told: what Has should answer of a filter that may be.
func told(f Filter, key string) bool {
	for _, p := range placed(key, len(f.Bits)*8, f.K) {
		if fmt.Sprintf("%08b", f.Bits[p/8])[7-p%8] != '1' {
			return false
		}
	}
	return true
}

// same tells whether two filters are; nil and empty bits are one.
func same(a, b Filter) bool {
	return a.K == b.K && bytes.Equal(a.Bits, b.Bits)
}

// brief: a filter as a failure tells it.
func brief(f Filter) string {
	return fmt.Sprintf("K %d, %d octets %x", f.K, len(f.Bits), f.Bits[:min(len(f.Bits), 24)])
}

// samples: keys of many lengths, the plain ones first.
func samples() []string {
	l := []string{"", "a", "b", "ab", "ba", "\x00", "\x00\x00", "\xff", "\x80", "ä", "\u20ac", "a\x00", "foobar", strings.Repeat("k", 96), strings.Repeat("long ", 20000)}
	r := rand.New(rand.NewSource(8))
	for n := range 60 {
		b := make([]byte, n)
		r.Read(b)
		l = append(l, string(b))
	}
	return l
}

// many: n keys, no two of them one.
func many(n int, begins string) []string {
	l := make([]string, n)
	for i := range l {
		l[i] = fmt.Sprint(begins, i)
	}
	return l
}

// lists: lists of keys for Make.
func lists() [][]string {
	return [][]string{nil, {}, {""}, {"a"}, {"a", "b"}, {"a", "a"}, {"a", "b", "a"}, many(3, "k"), many(5, ""), many(7, "x"), many(8, "y"), many(9, "z"), many(100, "key "), samples()}
}

// random: so many octets by chance, of a seed.
func random(seed int64, n int) []byte {
	b := make([]byte, n)
	rand.New(rand.NewSource(seed)).Read(b)
	return b
}

// filters: such as may be, those at the bounds among them.
func filters() []Filter {
	var l []Filter
	for k := 1; k <= 8; k++ {
		for _, n := range []int{1, 2, 3, 5, 8, 100, 8191, 8192} {
			l = append(l, Filter{k, make([]byte, n)}, Filter{k, bytes.Repeat([]byte{0xff}, n)}, Filter{k, random(int64(n), n)})
		}
	}
	return l
}

// wrongFilters: such as may not be.
func wrongFilters() []Filter {
	var l []Filter
	for _, k := range []int{0, 9, 10, 16, 255, 256, 257, 264, -1, -8, 1 << 32, 1<<32 + 1, -1 << 63, 1<<63 - 1} {
		for _, n := range []int{1, 3, 8192} {
			l = append(l, Filter{k, bytes.Repeat([]byte{0xff}, n)})
		}
	}
	for _, k := range []int{-1, 0, 1, 4, 8, 9} {
		l = append(l, Filter{k, nil}, Filter{k, []byte{}}, Filter{k, []byte("room")[:0]})
		l = append(l, Filter{k, bytes.Repeat([]byte{0xff}, 8193)}, Filter{k, make([]byte, 8194)}, Filter{k, make([]byte, 1<<17)})
	}
	return l
}

// made: what Make answers; fails if it refuses.
func made(t *testing.T, keys []string, each int) Filter {
	t.Helper()
	f, e := Make(keys, each)
	if e != api.OK {
		t.Fatalf("P8.1: Make of %d keys, each %d: error %d", len(keys), each, e)
	}
	return f
}

// turned: a text with one bit of each octet turned, so that it is another of the same length.
func turned(key string) string {
	b := slices.Clone([]byte(key))
	for i := range b {
		b[i] ^= 0x10
	}
	return string(b)
}
