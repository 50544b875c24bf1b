// Package varint is layer 1: numbers in as few octets as they need, ordered octet by octet as the numbers are.
package varint

import (
	"math/bits"

	"tickler/api"
)

// most is how many octets the longest number has: one that only tells the count, and all 64 bits.
const most = 9

// Size: how many octets n is written in.
func Size(n uint64) int {
	// k octets carry 7k bits of n up to k = 8; nine carry all 64, so a tenth is never needed.
	k := (bits.Len64(n) + 6) / 7
	return min(max(k, 1), most)
}

// Put: the octets of n.
func Put(n uint64) []byte {
	k := Size(n)
	octets := lay(n, k)
	return append([]byte(nil), octets[:k]...)
}

// Get: the number at the beginning of b, and how many octets it has.
func Get(b []byte) (uint64, int, api.Errno) {
	if len(b) == 0 {
		return 0, 0, api.ErrShort
	}
	k := told(b[0])
	if len(b) < k {
		return 0, 0, api.ErrShort
	}
	n := uint64(b[0] &^ lead(k))
	for _, x := range b[1:k] {
		n = n<<8 | uint64(x)
	}
	if Size(n) < k {
		return 0, 0, api.ErrRange
	}
	return n, k, api.OK
}

// Zig: small numbers of either sign become small numbers without one.
func Zig(n int) uint64 {
	if n < 0 {
		// -2n - 1, by way of ^n = -n - 1, so that the least int does not overflow.
		return uint64(^n)*2 + 1
	}
	return uint64(n) * 2
}

// Zag: the n whose Zig is m.
func Zag(m uint64) int {
	half := int(m / 2)
	if m%2 == 1 {
		return ^half
	}
	return half
}

// All: the numbers that b is made of.
func All(b []byte) ([]uint64, api.Errno) {
	var l []uint64
	for len(b) > 0 {
		n, k, e := Get(b)
		if e != api.OK {
			return nil, e
		}
		l = append(l, n)
		b = b[k:]
	}
	return l, api.OK
}

// lay: the k octets of n at the array's beginning; n must need no more than k.
func lay(n uint64, k int) [most]byte {
	var octets [most]byte
	for i := k - 1; i >= 0; i-- {
		octets[i] = byte(n)
		n >>= 8
	}
	octets[0] |= lead(k)
	return octets
}

// lead: the first octet's k - 1 ones, with zeros behind them.
func lead(k int) byte {
	return ^(byte(255) >> (k - 1))
}

// told: how many octets a number has that begins with first.
func told(first byte) int {
	return bits.LeadingZeros8(^first) + 1
}
