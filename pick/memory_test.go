package pick

import (
	"slices"
	"strings"
	"sync"
	"testing"
	"unsafe"

	"tickler/api"
	"tickler/edit"
)

// piece is a piece of memory: where it begins, and where it ends.
type piece struct{ from, to uintptr }

// pieceOf: the memory of a list, the room behind it too. A list without room still has a place if it points at something.
func pieceOf[T any](l []T) piece {
	var one T
	at := uintptr(unsafe.Pointer(unsafe.SliceData(l)))
	return piece{at, at + uintptr(cap(l))*unsafe.Sizeof(one)}
}

// meet tells whether two pieces share an octet, or one that is empty stands within the other.
func meet(a, b piece) bool {
	if a.from == a.to && a.from != 0 {
		return b.from <= a.from && a.from < b.to
	}
	return a.from < b.to && b.from < a.to
}

// apart fails if a piece of the answers meets an old one, or another of them.
func apart(t *testing.T, what string, answers []piece, old ...piece) {
	t.Helper()
	for i, a := range answers {
		if slices.ContainsFunc(append(slices.Clone(old), answers[:i]...), func(b piece) bool { return meet(a, b) }) {
			t.Errorf("P12.4: %s: the list %d of the answers shares memory", what, i)
		}
	}
}

// own: v with texts of its own, and something in the room behind its tables.
func own(v edit.Version) edit.Version {
	tables := slices.Clone(v.Tables)
	for i, m := range tables {
		tables[i].Low, tables[i].High = strings.Clone(m.Low), strings.Clone(m.High)
	}
	behind := []edit.Meta{table(77, 0, "room", "room"), table(78, 1, "behind", "it"), {}, table(79, 3, "a", "z")}
	v.Tables = append(tables, behind...)[:len(tables)]
	return v
}

// whole: a list with the room behind it, in memory of its own.
func whole[T any](l []T) []T {
	return slices.Clone(l[:cap(l)])
}

// wiped clears a list, with the room behind it.
func wiped[T any](l []T) {
	clear(l[:cap(l)])
}

// spans: some from a low to a high.
func spans() [][2]string {
	return [][2]string{{"\x00", "\xff\xff"}, {"a", "a"}, {"b", "k"}, {"z", "a"}, {"", ""}, {"", long(97)}, {"100z", "102"}}
}

// P12.4: P2 of DOC.md

func TestVersionsHandedInStay(t *testing.T) {
	all := versions()
	for what, v := range unmade() {
		all["unmade: "+what] = v
	}
	for what, v := range all {
		given := own(v)
		was := whole(given.Tables)
		Full(given)
		Choose(given)
		for level := -1; level < 5; level++ {
			for _, s := range spans() {
				Touch(given, level, s[0], s[1])
			}
		}
		if !slices.Equal(whole(given.Tables), was) {
			t.Errorf("P12.4: %s: the tables that were handed in are changed", what)
		}
	}
}

func TestFullAnswersNewMemory(t *testing.T) {
	for what, v := range versions() {
		given := own(v)
		one, _ := Full(given)
		two, _ := Full(given)
		apart(t, "Full of "+what, []piece{pieceOf(one), pieceOf(two)}, pieceOf(given.Tables))
		wiped(one)
		wiped(given.Tables)
		want, _ := modelFull(v)
		if three, _ := Full(v); !slices.Equal(two, want) || !slices.Equal(three, want) {
			t.Errorf("P12.4: what Full of %s answered is not its holder's", what)
		}
	}
}

func TestChooseAnswersNewMemory(t *testing.T) {
	for what, v := range versions() {
		given := own(v)
		one, _, _ := Choose(given)
		two, _, _ := Choose(given)
		apart(t, "Choose of "+what, []piece{pieceOf(one.Inputs), pieceOf(two.Inputs)}, pieceOf(given.Tables))
		wiped(one.Inputs)
		if !slices.Equal(given.Tables, v.Tables) {
			t.Errorf("P12.4: what Choose of %s answered, wiped, changed the version", what)
		}
		wiped(given.Tables)
		want, _, _ := modelChoose(v)
		if three, _, _ := Choose(v); !samePlan(two, want) || !samePlan(three, want) {
			t.Errorf("P12.4: what Choose of %s answered is not its holder's", what)
		}
	}
}

func TestTouchAnswersNewMemory(t *testing.T) {
	for what, v := range versions() {
		for level := range 4 {
			for _, s := range spans() {
				given := own(v)
				one, _ := Touch(given, level, s[0], s[1])
				two, _ := Touch(given, level, s[0], s[1])
				apart(t, "Touch of "+what, []piece{pieceOf(one), pieceOf(two)}, pieceOf(given.Tables))
				wiped(one)
				wiped(given.Tables)
				want, _ := modelTouch(v, level, s[0], s[1])
				if three, _ := Touch(v, level, s[0], s[1]); !slices.Equal(two, want) || !slices.Equal(three, want) {
					t.Errorf("P12.4: what Touch of %s answered is not its holder's", what)
				}
			}
		}
	}
}

func TestNothingIsKept(t *testing.T) {
	v := example()
	want, _, _ := modelChoose(v)
	all := versions()
	for what, w := range unmade() {
		all["unmade: "+what] = w
	}
	for what, w := range all {
		Full(w)
		Choose(w)
		Touch(w, 1, "a", "z")
		if p, ok, e := Choose(v); e != api.OK || !ok || !samePlan(p, want) {
			t.Errorf("P12.4: Choose behind calls with %s: %v, %t, error %d", what, p, ok, e)
		}
	}
}

// Several may ask of one version at the same time: no call writes to what it is given.
func TestManyAskAtOnce(t *testing.T) {
	v := own(example())
	want, _, _ := modelChoose(v)
	var all sync.WaitGroup
	plans := make([]Plan, 8)
	for i := range plans {
		all.Go(func() {
			Full(v)
			Touch(v, 1, "b", "m")
			plans[i], _, _ = Choose(v)
		})
	}
	all.Wait()
	for i, p := range plans {
		if !samePlan(p, want) {
			t.Errorf("P12.4: Choose, goroutine %d: %v; want %v", i, p, want)
		}
	}
}
