package edit

import (
	"bytes"
	"slices"
	"strings"
	"testing"
	"unsafe"

	"tickler/api"
)

// piece is a piece of memory: where it begins, and where it ends.
type piece struct{ from, to uintptr }

// pieceOf: the memory of a list, the room behind it too. A list without room still has a place if it points at something.
func pieceOf[T any](l []T) piece {
	var one T
	at := uintptr(unsafe.Pointer(unsafe.SliceData(l)))
	return piece{at, at + uintptr(cap(l))*unsafe.Sizeof(one)}
}

// wordsOf: the memory of the tables' texts.
func wordsOf(l []Meta) []piece {
	var p []piece
	for _, m := range l {
		for _, s := range []string{m.Low, m.High} {
			at := uintptr(unsafe.Pointer(unsafe.StringData(s)))
			if s != "" {
				p = append(p, piece{at, at + uintptr(len(s))})
			}
		}
	}
	return p
}

// meet tells whether two pieces share an octet, or one that is empty stands within the other.
func meet(a, b piece) bool {
	if a.from == a.to && a.from != 0 {
		return b.from <= a.from && a.from < b.to
	}
	return a.from < b.to && b.from < a.to
}

// apart fails if a piece of the answers meets an old one, or another of them.
func apart(t *testing.T, what string, answers []piece, old ...piece) {
	t.Helper()
	for i, a := range answers {
		if slices.ContainsFunc(append(slices.Clone(old), answers[:i]...), func(b piece) bool { return meet(a, b) }) {
			t.Errorf("P11.5: %s: the list %d of the answers shares memory", what, i)
		}
	}
}

// roomy: l with something in the room behind it.
func roomy[T any](l []T, behind ...T) []T {
	return append(slices.Clone(l), behind...)[:len(l)]
}

// behind: what stands in the room behind tables.
func behind() []Meta {
	return []Meta{table(77, 0, "room", "room"), table(78, 1, "behind", "it"), {}, table(79, 1, "a", "a")}
}

// ownVersion: v in memory of its own, with something in the room behind its tables.
func ownVersion(v Version) Version {
	v.Tables = ownTables(v.Tables)
	return v
}

// ownEdit: e in memory of its own, with something in the room behind its lists.
func ownEdit(e Edit) Edit {
	e.Drop = roomy(e.Drop, 1, 2, 3, 4)
	e.Add = ownTables(e.Add)
	return e
}

// ownTables: the tables with texts of their own, and something in the room behind them.
func ownTables(l []Meta) []Meta {
	c := slices.Clone(l)
	for i := range c {
		c[i].Low, c[i].High = strings.Clone(c[i].Low), strings.Clone(c[i].High)
	}
	return roomy(c, behind()...)
}

// ownOctets: b with something in the room behind it.
func ownOctets(b []byte) []byte {
	return roomy(b, []byte("room behind it")...)
}

// spoiled turns all octets of b, those in the room behind it too.
func spoiled(b []byte) {
	all := b[:cap(b)]
	for i := range all {
		all[i] ^= 0xff
	}
}

// wiped clears a list, with the room behind it.
func wiped[T any](l []T) {
	clear(l[:cap(l)])
}

// full: a list with the room behind it, in memory of its own.
func full[T any](l []T) []T {
	return slices.Clone(l[:cap(l)])
}

// allVersions: versions that may be and that may not.
func allVersions() map[string]Version {
	all := versions()
	for what, v := range unmade() {
		all["unmade: "+what] = v
	}
	return all
}

// someEdits: edits, and whether v takes them or not.
func someEdits(v Version) []Edit {
	return []Edit{
		{Seq: v.Seq, Next: v.Next},
		{Add: []Meta{table(lastID-1, 0, "z", "zz")}, Seq: v.Seq, Next: lastID},
		{Drop: idsOf(v.Tables), Seq: v.Seq, Next: v.Next},
		{Drop: idsOf(v.Tables), Add: v.Tables, Seq: v.Seq, Next: v.Next},
		{Drop: idsOf(v.Tables), Add: []Meta{table(5, 3, "b", "b"), table(3, 1, "a", "z"), table(1, 0, "c", "d"), table(4, 3, "a", "a")}, Seq: v.Seq, Next: lastID},
		{Drop: idsOf(v.Tables)[len(v.Tables)/2:], Seq: v.Seq, Next: v.Next},
		{Drop: []int{lastID}, Add: v.Tables, Seq: v.Seq, Next: v.Next},
		{Add: []Meta{table(5, 3, "b", "a"), {}}, Seq: v.Seq, Next: v.Next},
		{},
	}
}

// P11.5: P2 of DOC.md

func TestVersionsHandedInStay(t *testing.T) {
	for what, v := range allVersions() {
		for _, e := range someEdits(v) {
			given, with := ownVersion(v), ownEdit(e)
			tables, drop, add := full(given.Tables), full(with.Drop), full(with.Add)
			Check(given)
			Apply(given, with)
			Whole(given)
			At(given, 0)
			At(given, 1)
			Encode(with)
			if !slices.Equal(full(given.Tables), tables) {
				t.Errorf("P11.5: %s: the tables that were handed in are changed", what)
			}
			if !slices.Equal(full(with.Drop), drop) || !slices.Equal(full(with.Add), add) {
				t.Errorf("P11.5: %s: the edit that was handed in is changed", what)
			}
		}
	}
}

func TestEditsHandedInStay(t *testing.T) {
	all := edits()
	all["257 dropped"] = Edit{Drop: counted(257)}
	all["257 added"] = Edit{Add: row(257, 1, 2)}
	all["a number below 0"] = Edit{Drop: []int{1, -1}, Add: []Meta{table(1, 1, "b", "a")}}
	for what, e := range all {
		given := ownEdit(e)
		drop, add := full(given.Drop), full(given.Add)
		Encode(given)
		Apply(levels(), given)
		Apply(New(), given)
		if !slices.Equal(full(given.Drop), drop) || !slices.Equal(full(given.Add), add) {
			t.Errorf("P11.5: %s: the edit that was handed in is changed", what)
		}
	}
}

func TestOctetsHandedInStay(t *testing.T) {
	for what, d := range edits() {
		for _, b := range [][]byte{laid(d), laid(d)[1:], append(laid(d), 7), laid(d)[:len(laid(d))-1]} {
			given := ownOctets(b)
			was := full(given)
			Decode(given)
			if !bytes.Equal(full(given), was) {
				t.Errorf("P11.5: %s: the octets that were handed in are changed", what)
			}
		}
	}
}

func TestApplyAnswersNewMemory(t *testing.T) {
	for what, v := range versions() {
		for _, e := range someEdits(v) {
			want, why := modelApply(v, e)
			if why != api.OK {
				continue
			}
			given, with := ownVersion(v), ownEdit(e)
			one, _ := Apply(given, with)
			two, _ := Apply(given, with)
			apart(t, "Apply to "+what, []piece{pieceOf(one.Tables), pieceOf(two.Tables)}, pieceOf(given.Tables), pieceOf(with.Add), pieceOf(with.Drop))
			wiped(one.Tables)
			if !sameVersion(given, v) || !sameEdit(with, e) {
				t.Errorf("P11.5: what Apply to %s answered, wiped, changed what was handed in", what)
			}
			wiped(given.Tables)
			wiped(with.Add)
			wiped(with.Drop)
			if three, _ := Apply(v, e); !sameVersion(two, want) || !sameVersion(three, want) {
				t.Errorf("P11.5: what Apply to %s answered is not its holder's", what)
			}
		}
	}
}

func TestEncodeAnswersNewMemory(t *testing.T) {
	for what, e := range edits() {
		given := ownEdit(e)
		one, _ := Encode(given)
		two, _ := Encode(given)
		apart(t, "Encode of "+what, []piece{pieceOf(one), pieceOf(two)}, append(wordsOf(given.Add), pieceOf(given.Add), pieceOf(given.Drop))...)
		spoiled(one)
		if !sameEdit(given, e) {
			t.Errorf("P11.5: what Encode of %s answered, spoiled, changed the edit", what)
		}
		wiped(given.Add)
		wiped(given.Drop)
		if three, _ := Encode(e); !bytes.Equal(two, laid(e)) || !bytes.Equal(three, laid(e)) {
			t.Errorf("P11.5: what Encode of %s answered is not its holder's", what)
		}
	}
}

func TestDecodeAnswersNewMemory(t *testing.T) {
	for what, e := range edits() {
		given := ownOctets(laid(e))
		one, _ := Decode(given)
		two, _ := Decode(given)
		apart(t, "Decode of "+what, []piece{pieceOf(one.Drop), pieceOf(one.Add), pieceOf(two.Drop), pieceOf(two.Add)}, pieceOf(given))
		for _, p := range slices.Concat(wordsOf(one.Add), wordsOf(two.Add)) {
			if meet(p, pieceOf(given)) {
				t.Errorf("P11.5: Decode of %s: a text lies in the octets that were handed in", what)
			}
		}
		wiped(one.Drop)
		wiped(one.Add)
		if !bytes.Equal(given, laid(e)) {
			t.Errorf("P11.5: what Decode of %s answered, wiped, changed the octets", what)
		}
		spoiled(given)
		if three, _ := Decode(laid(e)); !sameEdit(two, e) || !sameEdit(three, e) {
			t.Errorf("P11.5: what Decode of %s answered is not its holder's", what)
		}
	}
}

func TestWholeAndAtAnswerNewMemory(t *testing.T) {
	for what, v := range versions() {
		given := ownVersion(v)
		one, _ := Whole(given)
		two, _ := Whole(given)
		answers := [][]Meta{one.Add, two.Add}
		for level := range 4 {
			l, _ := At(given, level)
			m, _ := At(given, level)
			answers = append(answers, l, m)
		}
		var pieces []piece
		for _, l := range answers {
			pieces = append(pieces, pieceOf(l))
		}
		apart(t, "Whole and At of "+what, pieces, pieceOf(given.Tables))
		for i, l := range answers {
			if i%2 == 0 {
				wiped(l)
			}
		}
		if !sameVersion(given, v) {
			t.Errorf("P11.5: what Whole and At of %s answered, wiped, changed the version", what)
		}
		wiped(given.Tables)
		got := slices.Concat(answers[3], answers[5], answers[7], answers[9])
		if !slices.Equal(two.Add, v.Tables) || !slices.Equal(got, v.Tables) {
			t.Errorf("P11.5: what Whole and At of %s answered is not its holder's", what)
		}
	}
}

func TestNewAnswersNewMemory(t *testing.T) {
	one := New()
	one.Tables = append(one.Tables, table(1, 1, "a", "b"))
	one.Seq, one.Next = 7, 8
	if two := New(); !sameVersion(two, Version{Next: 1}) {
		t.Errorf("P11.5: New() behind another one that was changed: %v", two)
	}
}

func TestNothingIsKept(t *testing.T) {
	d := Edit{Drop: []int{9}, Add: []Meta{table(10, 1, "x", "y")}, Seq: 1001, Next: 11}
	want, _ := modelApply(levels(), d)
	for _, v := range allVersions() {
		Check(v)
		Whole(v)
		At(v, 1)
		for _, e := range someEdits(v) {
			Apply(v, e)
			b, _ := Encode(e)
			Decode(b)
		}
		if got, e := Apply(levels(), d); e != api.OK || !sameVersion(got, want) {
			t.Fatalf("P11.5: Apply behind other calls: %v, error %d", got, e)
		}
		if b, e := Encode(d); e != api.OK || !bytes.Equal(b, laid(d)) {
			t.Fatalf("P11.5: Encode behind other calls: %x, error %d", b, e)
		}
	}
}
