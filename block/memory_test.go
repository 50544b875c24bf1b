package block

import (
	"bytes"
	"slices"
	"strings"
	"testing"
	"unsafe"

	"tickler/api"
	"tickler/sum"
)

// piece is a piece of memory: where it begins, and where it ends.
type piece struct{ from, to uintptr }

// pieceOf: the memory of a list, the room behind it too. A list without room still has a place if it points at something.
func pieceOf[T any](l []T) piece {
	var one T
	at := uintptr(unsafe.Pointer(unsafe.SliceData(l)))
	return piece{at, at + uintptr(cap(l))*unsafe.Sizeof(one)}
}

// textsOf: the memory of the versions' texts.
func textsOf(l []api.Entry) []piece {
	var p []piece
	for _, x := range l {
		for _, s := range []string{x.Key, x.Value} {
			at := uintptr(unsafe.Pointer(unsafe.StringData(s)))
			if s != "" {
				p = append(p, piece{at, at + uintptr(len(s))})
			}
		}
	}
	return p
}

// meet tells whether two pieces share an octet, or one that is empty stands within the other.
func meet(a, b piece) bool {
	if a.from == a.to && a.from != 0 {
		return b.from <= a.from && a.from < b.to
	}
	return a.from < b.to && b.from < a.to
}

// apart fails if a piece of the answers meets an old one, or another of them.
func apart(t *testing.T, what string, answers []piece, old ...piece) {
	t.Helper()
	for i, a := range answers {
		if slices.ContainsFunc(append(slices.Clone(old), answers[:i]...), func(b piece) bool { return meet(a, b) }) {
			t.Errorf("P9.3: %s: the list %d of the answers shares memory", what, i)
		}
	}
}

// roomy: l with something in the room behind it.
func roomy[T any](l []T, behind ...T) []T {
	return append(slices.Clone(l), behind...)[:len(l)]
}

// octets: b with something in the room behind it.
func octets(b []byte) []byte {
	return roomy(b, []byte("room behind it")...)
}

// spoiled turns all octets of b, those in the room behind it too.
func spoiled(b []byte) {
	all := b[:cap(b)]
	for i := range all {
		all[i] ^= 0xff
	}
}

// twin: the versions with texts of their own.
func twin(l []api.Entry) []api.Entry {
	var c []api.Entry
	for _, x := range l {
		x.Key, x.Value = strings.Clone(x.Key), strings.Clone(x.Value)
		c = append(c, x)
	}
	return c
}

// blocks: octets that are blocks, and that are none.
func blocks() map[string][]byte {
	all := map[string][]byte{"nil": nil, "three": {1, 2, 3}, "four": {0, 0, 0, 0}, "guarded": sum.Guard([]byte("no block"))}
	for what, l := range lists() {
		all[what] = laid(l)
		turned := laid(l)
		turned[0] ^= 1
		all[what+", turned"] = turned
		all[what+", no start"] = sum.Guard(turned[:len(turned)-6])
	}
	return all
}

// P9.3: P2 of DOC.md

func TestVersionsHandedInStay(t *testing.T) {
	all := lists()
	for what, x := range wrong() {
		all[what] = []api.Entry{put("a", 1), x, put("z", 1)}
	}
	all["none"] = nil
	all["65"] = many(65)
	all["out of order"] = []api.Entry{put("z", 1), put("a", 1)}
	for what, l := range all {
		given := roomy(l, put("room", 1), put("behind", 2))
		was := slices.Clone(given[:cap(given)])
		Check(given)
		Encode(given)
		if !slices.Equal(given[:cap(given)], was) {
			t.Errorf("P9.3: %s: the versions that were handed in are changed", what)
		}
	}
}

func TestOctetsHandedInStay(t *testing.T) {
	for what, b := range blocks() {
		given := octets(b)
		was := slices.Clone(given[:cap(given)])
		Decode(given)
		Seek(given, "a", 1)
		Seek(given, "key/00", 1000)
		if !bytes.Equal(given[:cap(given)], was) {
			t.Errorf("P9.3: %s: the octets that were handed in are changed", what)
		}
	}
}

func TestEncodeAnswersNewMemory(t *testing.T) {
	for what, l := range lists() {
		given := roomy(twin(l), put("room", 1))
		one, _ := Encode(given)
		two, _ := Encode(given)
		apart(t, "Encode of "+what, []piece{pieceOf(one), pieceOf(two)}, append(textsOf(given), pieceOf(given))...)
		spoiled(one)
		if !slices.Equal(given, l) {
			t.Errorf("P9.3: what Encode of %s answered, spoiled, changed the versions", what)
		}
		clear(given[:cap(given)])
		if three, _ := Encode(l); !bytes.Equal(two, laid(l)) || !bytes.Equal(three, laid(l)) {
			t.Errorf("P9.3: what Encode of %s answered is not its holder's", what)
		}
	}
}

func TestDecodeAnswersNewMemory(t *testing.T) {
	for what, l := range lists() {
		given := octets(laid(l))
		one, _ := Decode(given)
		two, _ := Decode(given)
		apart(t, "Decode of "+what, []piece{pieceOf(one), pieceOf(two)}, pieceOf(given))
		for _, p := range slices.Concat(textsOf(one), textsOf(two)) {
			if meet(p, pieceOf(given)) {
				t.Errorf("P9.3: Decode of %s: a text lies in the octets that were handed in", what)
			}
		}
		clear(one[:cap(one)])
		if !bytes.Equal(given, laid(l)) {
			t.Errorf("P9.3: what Decode of %s answered, spoiled, changed the octets", what)
		}
		spoiled(given)
		if three, _ := Decode(laid(l)); !slices.Equal(two, l) || !slices.Equal(three, l) {
			t.Errorf("P9.3: what Decode of %s answered is not its holder's", what)
		}
	}
}

func TestSeekAnswersNewMemory(t *testing.T) {
	for what, l := range lists() {
		given := octets(laid(l))
		var found []api.Entry
		for _, x := range l[:min(len(l), 9)] {
			y, _, _ := Seek(given, x.Key, x.Seq)
			found = append(found, y)
		}
		for _, p := range textsOf(found) {
			if meet(p, pieceOf(given)) {
				t.Errorf("P9.3: Seek in %s: a text lies in the octets that were handed in", what)
			}
		}
		spoiled(given)
		if !slices.Equal(found, l[:len(found)]) {
			t.Errorf("P9.3: what Seek in %s answered is not its holder's", what)
		}
	}
}

func TestNothingIsKept(t *testing.T) {
	b := laid(many(9))
	for _, l := range lists() {
		Encode(l)
		Decode(laid(l))
		Check(nil)
		if got, e := Decode(b); e != api.OK || !slices.Equal(got, many(9)) {
			t.Fatalf("P9.3: Decode behind other calls: %v, error %d", got, e)
		}
		if got, e := Encode(many(9)); e != api.OK || !bytes.Equal(got, b) {
			t.Fatalf("P9.3: Encode behind other calls: %x, error %d", got, e)
		}
	}
}
