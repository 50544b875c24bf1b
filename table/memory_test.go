package table

import (
	"bytes"
	"slices"
	"strings"
	"testing"
	"unsafe"

	"tickler/api"
	"tickler/bloom"
	"tickler/sum"
)

// piece is a piece of memory: where it begins, and where it ends.
type piece struct{ from, to uintptr }

// pieceOf: the memory of a list, the room behind it too. A list without room still has a place if it points at something.
func pieceOf[T any](l []T) piece {
	var one T
	at := uintptr(unsafe.Pointer(unsafe.SliceData(l)))
	return piece{at, at + uintptr(cap(l))*unsafe.Sizeof(one)}
}

// textsOf: the memory of the versions' texts.
func textsOf(l []api.Entry) []piece {
	var p []piece
	for _, x := range l {
		for _, s := range []string{x.Key, x.Value} {
			at := uintptr(unsafe.Pointer(unsafe.StringData(s)))
			if s != "" {
				p = append(p, piece{at, at + uintptr(len(s))})
			}
		}
	}
	return p
}

// meet tells whether two pieces share an octet, or one that is empty stands within the other.
func meet(a, b piece) bool {
	if a.from == a.to && a.from != 0 {
		return b.from <= a.from && a.from < b.to
	}
	return a.from < b.to && b.from < a.to
}

// apart fails if a piece of the answers meets an old one, or another of them.
func apart(t *testing.T, what string, answers []piece, old ...piece) {
	t.Helper()
	for i, a := range answers {
		if slices.ContainsFunc(append(slices.Clone(old), answers[:i]...), func(b piece) bool { return meet(a, b) }) {
			t.Errorf("P10.5: %s: the list %d of the answers shares memory", what, i)
		}
	}
}

// roomy: l with something in the room behind it.
func roomy[T any](l []T, behind ...T) []T {
	return append(slices.Clone(l), behind...)[:len(l)]
}

// octets: b with something in the room behind it.
func octets(b []byte) []byte {
	return roomy(b, []byte("room behind it")...)
}

// spoiled turns all octets of b, those in the room behind it too.
func spoiled(b []byte) {
	all := b[:cap(b)]
	for i := range all {
		all[i] ^= 0xff
	}
}

// twin: the versions with texts of their own, and something in the room behind them.
func twin(l []api.Entry) []api.Entry {
	var c []api.Entry
	for _, x := range l {
		x.Key, x.Value = strings.Clone(x.Key), strings.Clone(x.Value)
		c = append(c, x)
	}
	return roomy(c, put("room", 1), put("behind", 2))
}

// tables: octets that are tables, and that are none.
func tables() map[string][]byte {
	all := map[string][]byte{"nil": nil, "three": {1, 2, 3}, "a foot": layout{mark: "tktb"}.foot(), "another mark": layout{mark: "tkta"}.foot(), "guarded": sum.Guard(bytes.Repeat([]byte("no table"), 9))}
	for what, l := range lists() {
		all[what] = laid(l)
		turned := laid(l)
		turned[0] ^= 1
		all[what+", turned"] = turned
		p := layoutOf(sixteens(l))
		p.filter = record(3, []byte{7, 0})
		all[what+", another filter"] = p.octets()
	}
	return all
}

// P10.5: P2 of DOC.md

func TestVersionsHandedInStay(t *testing.T) {
	all := lists()
	for what, x := range wrong() {
		all[what] = with(many(20), 16, x)
	}
	all["none"] = nil
	all["4097"] = many(4097)
	all["out of order"] = append(many(16), put("a", 1))
	for what, l := range all {
		given := roomy(l, put("room", 1), put("behind", 2))
		was := slices.Clone(given[:cap(given)])
		Build(given)
		if !slices.Equal(given[:cap(given)], was) {
			t.Errorf("P10.5: %s: the versions that were handed in are changed", what)
		}
	}
}

func TestOctetsHandedInStay(t *testing.T) {
	for what, b := range tables() {
		given := octets(b)
		was := slices.Clone(given[:cap(given)])
		Open(given)
		Get(given, "a", 1)
		Get(given, "key/0000", 10000)
		if !bytes.Equal(given[:cap(given)], was) {
			t.Errorf("P10.5: %s: the octets that were handed in are changed", what)
		}
	}
}

func TestTablesHandedInStay(t *testing.T) {
	all := unmade()
	for what, l := range lists() {
		all[what] = l
	}
	for what, l := range all {
		given := Table{twin(l), bloom.Filter{K: 7, Bits: octets([]byte{1, 2, 3})}}
		entries, bits := given.Entries[:cap(given.Entries)], given.Filter.Bits[:cap(given.Filter.Bits)]
		was, wasBits := slices.Clone(entries), slices.Clone(bits)
		Range(given)
		for _, from := range []string{"", "key/0003", "n"} {
			for _, to := range []string{"", "key/0009", "a"} {
				Between(given, from, to)
			}
		}
		if !slices.Equal(entries, was) || !bytes.Equal(bits, wasBits) {
			t.Errorf("P10.5: %s: the table that was handed in is changed", what)
		}
	}
}

func TestBuildAnswersNewMemory(t *testing.T) {
	for what, l := range lists() {
		given := twin(l)
		one, _ := Build(given)
		two, _ := Build(given)
		apart(t, "Build of "+what, []piece{pieceOf(one), pieceOf(two)}, append(textsOf(given), pieceOf(given))...)
		spoiled(one)
		if !slices.Equal(given, l) {
			t.Errorf("P10.5: what Build of %s answered, spoiled, changed the versions", what)
		}
		clear(given[:cap(given)])
		if three, _ := Build(l); !bytes.Equal(two, laid(l)) || !bytes.Equal(three, laid(l)) {
			t.Errorf("P10.5: what Build of %s answered is not its holder's", what)
		}
	}
}

func TestOpenAnswersNewMemory(t *testing.T) {
	for what, l := range lists() {
		given := octets(laid(l))
		one, _ := Open(given)
		two, _ := Open(given)
		apart(t, "Open of "+what, []piece{pieceOf(one.Entries), pieceOf(one.Filter.Bits), pieceOf(two.Entries), pieceOf(two.Filter.Bits)}, pieceOf(given))
		for _, p := range slices.Concat(textsOf(one.Entries), textsOf(two.Entries)) {
			if meet(p, pieceOf(given)) || meet(p, pieceOf(one.Filter.Bits)) {
				t.Errorf("P10.5: Open of %s: a text lies in octets", what)
			}
		}
		clear(one.Entries[:cap(one.Entries)])
		spoiled(one.Filter.Bits)
		if !bytes.Equal(given, laid(l)) {
			t.Errorf("P10.5: what Open of %s answered, spoiled, changed the octets", what)
		}
		spoiled(given)
		three, _ := Open(laid(l))
		for _, x := range []Table{two, three} {
			if !slices.Equal(x.Entries, l) || !bytes.Equal(x.Filter.Bits, bitsOf(uniques(l))[1:]) {
				t.Errorf("P10.5: what Open of %s answered is not its holder's", what)
			}
		}
	}
}

func TestGetAnswersNewMemory(t *testing.T) {
	for what, l := range lists() {
		given := octets(laid(l))
		var found []api.Entry
		for _, x := range l[:min(len(l), 5)] {
			y, _, _ := Get(given, x.Key, x.Seq)
			found = append(found, y)
		}
		for _, p := range textsOf(found) {
			if meet(p, pieceOf(given)) {
				t.Errorf("P10.5: Get in %s: a text lies in the octets that were handed in", what)
			}
		}
		spoiled(given)
		if !slices.Equal(found, l[:len(found)]) {
			t.Errorf("P10.5: what Get in %s answered is not its holder's", what)
		}
	}
}

func TestBetweenAnswersNewMemory(t *testing.T) {
	for what, l := range lists() {
		for _, from := range []string{"", l[0].Key, l[len(l)/2].Key, l[len(l)-1].Key + "x"} {
			for _, to := range []string{"", l[len(l)-1].Key, l[len(l)-1].Key + "x", "\x00"} {
				given := Table{Entries: twin(l)}
				one, _ := Between(given, from, to)
				two, _ := Between(given, from, to)
				apart(t, "Between of "+what, []piece{pieceOf(one), pieceOf(two)}, pieceOf(given.Entries))
				clear(one[:cap(one)])
				if !slices.Equal(given.Entries, l) {
					t.Errorf("P10.5: what Between of %s answered, spoiled, changed the table", what)
				}
				clear(given.Entries[:cap(given.Entries)])
				if !slices.Equal(two, modelBetween(l, from, to)) {
					t.Errorf("P10.5: what Between of %s answered is not its holder's", what)
				}
			}
		}
	}
}

func TestNothingIsKept(t *testing.T) {
	b := laid(many(20))
	for _, l := range lists() {
		Build(l)
		Open(laid(l))
		Build(nil)
		Open(nil)
		if got, e := Open(b); e != api.OK || !slices.Equal(got.Entries, many(20)) {
			t.Fatalf("P10.5: Open behind other calls: %v, error %d", got, e)
		}
		if got, e := Build(many(20)); e != api.OK || !bytes.Equal(got, b) {
			t.Fatalf("P10.5: Build behind other calls: %x, error %d", got, e)
		}
	}
}
