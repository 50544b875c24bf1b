package bloom

import (
	"bytes"
	"slices"
	"strings"
	"testing"
	"unsafe"

	"tickler/api"
)

// piece is a piece of memory: where it begins, and where it ends.
type piece struct{ from, to uintptr }

// pieceOf: the memory of a list, the room behind it too. A list without room still has a place if it points at something.
func pieceOf[T any](l []T) piece {
	var one T
	at := uintptr(unsafe.Pointer(unsafe.SliceData(l)))
	return piece{at, at + uintptr(cap(l))*unsafe.Sizeof(one)}
}

// meet tells whether two pieces share an octet, or one that is empty stands within the other.
func meet(a, b piece) bool {
	if a.from == a.to && a.from != 0 {
		return b.from <= a.from && a.from < b.to
	}
	return a.from < b.to && b.from < a.to
}

// apart fails if a piece of the answers meets an old one, or another of them.
func apart(t *testing.T, what string, answers []piece, old ...piece) {
	t.Helper()
	for i, a := range answers {
		if slices.ContainsFunc(append(slices.Clone(old), answers[:i]...), func(b piece) bool { return meet(a, b) }) {
			t.Errorf("P8.4: %s: the list %d of the answers shares memory", what, i)
		}
	}
}

// roomy: l with something in the room behind it.
func roomy[T any](l []T, behind ...T) []T {
	return append(slices.Clone(l), behind...)[:len(l)]
}

// octets: b with something in the room behind it.
func octets(b []byte) []byte {
	return roomy(b, []byte("room behind it")...)
}

// spoiled turns all octets of b, those in the room behind it too.
func spoiled(b []byte) {
	all := b[:cap(b)]
	for i := range all {
		all[i] ^= 0xff
	}
}

// P8.4: P2 of DOC.md

func TestKeysHandedInStay(t *testing.T) {
	for _, keys := range append(lists(), many(4097, "k")) {
		given := roomy(keys, "room", "behind", "it")
		was := slices.Clone(given[:cap(given)])
		for _, each := range []int{-1, 0, 1, 10, 16, 17} {
			Make(given, each)
		}
		if !slices.Equal(given[:cap(given)], was) {
			t.Errorf("P8.4: Make changed the %d keys that were handed in", len(keys))
		}
	}
}

func TestFiltersAndOctetsHandedInStay(t *testing.T) {
	for _, f := range append(filters(), wrongFilters()...) {
		given := Filter{f.K, octets(f.Bits)}
		was := slices.Clone(given.Bits[:cap(given.Bits)])
		for _, key := range samples()[:8] {
			Has(given, key)
		}
		Encode(given)
		Decode(given.Bits)
		if given.K != f.K || !bytes.Equal(given.Bits[:cap(given.Bits)], was) {
			t.Errorf("P8.4: %s was changed", brief(f))
		}
	}
}

func TestMakeAnswersNewMemory(t *testing.T) {
	for _, keys := range lists() {
		given := roomy(keys, "room")
		want := filtered(keys, 10)
		one, two := made(t, given, 10), made(t, given, 10)
		apart(t, "Make", []piece{pieceOf(one.Bits), pieceOf(two.Bits)}, pieceOf(given))
		spoiled(one.Bits)
		clear(given[:cap(given)])
		if !same(two, want) || !same(made(t, keys, 10), want) {
			t.Errorf("P8.4: what Make of %d keys answered is not its holder's", len(keys))
		}
	}
}

func TestEncodeAnswersNewMemory(t *testing.T) {
	for _, f := range filters() {
		given := Filter{f.K, octets(f.Bits)}
		want := append([]byte{byte(f.K)}, f.Bits...)
		one, _ := Encode(given)
		two, _ := Encode(given)
		apart(t, "Encode", []piece{pieceOf(one), pieceOf(two)}, pieceOf(given.Bits))
		spoiled(one)
		if !same(given, f) {
			t.Errorf("P8.4: what Encode answered, spoiled, changed %s", brief(f))
		}
		spoiled(given.Bits)
		if !bytes.Equal(two, want) {
			t.Errorf("P8.4: what Encode of %s answered is not its holder's", brief(f))
		}
	}
}

func TestDecodeAnswersNewMemory(t *testing.T) {
	for _, f := range filters() {
		want := append([]byte{byte(f.K)}, f.Bits...)
		given := octets(want)
		one, _ := Decode(given)
		two, _ := Decode(given)
		apart(t, "Decode", []piece{pieceOf(one.Bits), pieceOf(two.Bits)}, pieceOf(given))
		spoiled(one.Bits)
		if !bytes.Equal(given, want) {
			t.Errorf("P8.4: what Decode answered, spoiled, changed the octets of %s", brief(f))
		}
		spoiled(given)
		if !same(two, f) {
			t.Errorf("P8.4: what Decode of the octets of %s answered is not its holder's", brief(f))
		}
	}
}

func TestNothingIsKept(t *testing.T) {
	f := made(t, many(20, "k"), 10)
	was := Filter{f.K, slices.Clone(f.Bits)}
	Make(many(20, "other"), 10)
	Has(f, "other")
	Decode(append([]byte{8}, f.Bits...))
	if again := made(t, many(20, "k"), 10); !same(again, was) || !same(f, was) {
		t.Errorf("P8.4: Make of the same keys, twice: %s, then %s", brief(was), brief(again))
	}
}

// P1 of DOC.md: whatever is given, the calls answer as the chapter says.

func FuzzAnyFilter(f *testing.F) {
	f.Add(1, []byte{1, 2, 3}, "a,b,c", 10)
	f.Add(8, []byte{0xff}, "", 16)
	f.Add(0, []byte{}, ",", 0)
	f.Add(9, []byte{9}, "\x00", 17)
	f.Add(-1, make([]byte, 8193), "a", -1)
	f.Fuzz(func(t *testing.T, k int, b []byte, text string, each int) {
		keys := strings.Split(text, ",")
		m, e := Make(keys, each)
		switch {
		case each < 1 || each > 16:
			if !same(m, Filter{}) || e != api.ErrRange {
				t.Fatalf("P8.1: Make, each %d: %s, error %d", each, brief(m), e)
			}
		case len(keys) > 4096:
			if !same(m, Filter{}) || e != api.ErrCount {
				t.Fatalf("P8.1: Make of %d keys: %s, error %d", len(keys), brief(m), e)
			}
		case !same(m, filtered(keys, each)) || e != api.OK:
			t.Fatalf("P8.1: Make(%q, %d): %s, error %d", keys, each, brief(m), e)
		}
		given := Filter{k, b}
		wrong := k < 1 || k > 8 || len(b) < 1 || len(b) > 8192
		ok, e := Has(given, text)
		if wrong && (ok || e != api.ErrState) || !wrong && (ok != told(given, text) || e != api.OK) {
			t.Fatalf("P8.1: Has(%s, %q): %t, error %d", brief(given), text, ok, e)
		}
		x, e := Encode(given)
		if wrong && (len(x) != 0 || e != api.ErrState) || !wrong && (!bytes.Equal(x, append([]byte{byte(k)}, b...)) || e != api.OK) {
			t.Fatalf("P8.2: Encode(%s): %x, error %d", brief(given), x, e)
		}
		d, e := Decode(b)
		switch {
		case len(b) < 2:
			if !same(d, Filter{}) || e != api.ErrShort {
				t.Fatalf("P8.2: Decode(%x): %s, error %d", b, brief(d), e)
			}
		case b[0] < 1 || b[0] > 8 || len(b) > 8193:
			if !same(d, Filter{}) || e != api.ErrState {
				t.Fatalf("P8.2: Decode of %d octets, the first %d: %s, error %d", len(b), b[0], brief(d), e)
			}
		case !same(d, Filter{int(b[0]), b[1:]}) || e != api.OK:
			t.Fatalf("P8.2: Decode(%x): %s, error %d", b, brief(d), e)
		}
	})
}
