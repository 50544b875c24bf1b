package merge

import (
	"slices"
	"strings"
	"sync"
	"testing"
	"unsafe"

	"tickler/api"
)

// piece is a piece of memory: where it begins, and where it ends.
type piece struct{ from, to uintptr }

// pieceOf: the memory of a list, the room behind it too. A list without room still has a place if it points at something.
func pieceOf[T any](l []T) piece {
	var one T
	at := uintptr(unsafe.Pointer(unsafe.SliceData(l)))
	return piece{at, at + uintptr(cap(l))*unsafe.Sizeof(one)}
}

// meet tells whether two pieces share an octet, or one that is empty stands within the other.
func meet(a, b piece) bool {
	if a.from == a.to && a.from != 0 {
		return b.from <= a.from && a.from < b.to
	}
	return a.from < b.to && b.from < a.to
}

// apart fails if a piece of the answers meets an old one, or another of them.
func apart(t *testing.T, what string, answers []piece, old ...piece) {
	t.Helper()
	for i, a := range answers {
		if slices.ContainsFunc(append(slices.Clone(old), answers[:i]...), func(b piece) bool { return meet(a, b) }) {
			t.Errorf("P13.5: %s: the list %d of the answers shares memory", what, i)
		}
	}
}

// roomy: l with something in the room behind it.
func roomy[T any](l []T, behind ...T) []T {
	return append(slices.Clone(l), behind...)[:len(l)]
}

// own: the versions with texts of their own, and something in the room behind them.
func own(l []api.Entry) []api.Entry {
	var c []api.Entry
	for _, x := range l {
		x.Key, x.Value = strings.Clone(x.Key), strings.Clone(x.Value)
		c = append(c, x)
	}
	return roomy(c, put("room", 1), put("behind", 2), gone("it", 3))
}

// ownPairs: the pairs, with something in the room behind them.
func ownPairs(l []api.Pair) []api.Pair {
	return roomy(l, api.Pair{Key: "room"}, api.Pair{Key: "behind", Value: "it"})
}

// ownSnaps: the snaps, with something in the room behind them.
func ownSnaps(l []int) []int {
	return roomy(l, 1, 2, 3)
}

// whole: a list with the room behind it, in memory of its own.
func whole[T any](l []T) []T {
	return slices.Clone(l[:cap(l)])
}

// wiped clears a list, with the room behind it.
func wiped[T any](l []T) {
	clear(l[:cap(l)])
}

// given: versions that may be a run, and that may be none.
func given() map[string][]api.Entry {
	all := lists()
	for what, c := range refused() {
		all["refused: "+what] = c.l
	}
	return all
}

// snapLists: snaps that are taken, and that are refused.
func snapLists() [][]int {
	return [][]int{nil, {2}, {7, 3, 7, 1}, rising(16), rising(17), {-1}, {3, 1<<40 + 1}, {1 << 40, 0}}
}

// P13.5: P2 of DOC.md

func TestVersionsHandedInStay(t *testing.T) {
	for what, l := range given() {
		for _, snaps := range snapLists() {
			x, s := own(l), ownSnaps(snaps)
			was, wasSnaps := whole(x), whole(s)
			Check(x)
			Thin(x, s, false)
			Thin(x, s, true)
			Seen(x, 2)
			Seen(x, 1<<40)
			if !slices.Equal(whole(x), was) || !slices.Equal(whole(s), wasSnaps) {
				t.Errorf("P13.5: %s: the versions or the snaps that were handed in are changed", what)
			}
		}
	}
}

func TestRunsHandedInStay(t *testing.T) {
	for what, l := range given() {
		// Two of one Key and number, no runs that go together, runs that do: what is refused stays as well.
		for _, others := range [][][]api.Entry{nil, {l}, {{put("aaaa", 99)}, nil, {put("0", 1), put("zz", 5)}}, make([][]api.Entry, 64)} {
			var runs [][]api.Entry
			for _, run := range append(slices.Clone(others), l) {
				runs = append(runs, own(run))
			}
			runs = roomy(runs, many(2), many(3))
			handed := whole(runs)
			var was [][]api.Entry
			for _, run := range handed {
				was = append(was, whole(run))
			}
			Merge(runs)
			for i, run := range runs[:cap(runs)] {
				if len(run) != len(handed[i]) || !slices.Equal(whole(run), was[i]) {
					t.Errorf("P13.5: %s: run %d of %d that were handed in is changed", what, i, len(runs))
				}
			}
		}
	}
}

func TestPairsHandedInStay(t *testing.T) {
	l := ownPairs(pairs())
	was := whole(l)
	for _, from := range around(l) {
		for _, to := range around(l) {
			Between(l, from, to)
		}
	}
	if !slices.Equal(whole(l), was) {
		t.Errorf("P13.5: the pairs that were handed in are changed")
	}
}

func TestMergeAnswersNewMemory(t *testing.T) {
	for what, l := range lists() {
		for _, others := range [][][]api.Entry{nil, {nil}, {{put("0", 1)}}, {{put("zz", 5)}, {}}} {
			var runs [][]api.Entry
			var old []piece
			for _, run := range append(slices.Clone(others), l) {
				runs = append(runs, own(run))
				old = append(old, pieceOf(runs[len(runs)-1]))
			}
			want, _ := modelMerge(runs)
			one, _ := Merge(runs)
			two, _ := Merge(runs)
			apart(t, "Merge of "+what, []piece{pieceOf(one), pieceOf(two)}, old...)
			wiped(one)
			if three, _ := Merge(runs); !slices.Equal(three, want) {
				t.Errorf("P13.5: what Merge of %s answered, wiped, changed the runs", what)
			}
			for _, run := range runs {
				wiped(run)
			}
			if !slices.Equal(two, want) {
				t.Errorf("P13.5: what Merge of %s answered is not its holder's", what)
			}
		}
	}
}

func TestThinAnswersNewMemory(t *testing.T) {
	for what, l := range lists() {
		for _, snaps := range snapLists() {
			for _, bottom := range []bool{false, true} {
				x, s := own(l), ownSnaps(snaps)
				want, _ := modelThin(l, snaps, bottom)
				one, _ := Thin(x, s, bottom)
				two, _ := Thin(x, s, bottom)
				apart(t, "Thin of "+what, []piece{pieceOf(one), pieceOf(two)}, pieceOf(x))
				wiped(one)
				if !slices.Equal(x, l) {
					t.Errorf("P13.5: what Thin of %s answered, wiped, changed the versions", what)
				}
				wiped(x)
				wiped(s)
				if three, _ := Thin(l, snaps, bottom); !slices.Equal(two, want) || !slices.Equal(three, want) {
					t.Errorf("P13.5: what Thin of %s answered is not its holder's", what)
				}
			}
		}
	}
}

func TestSeenAnswersNewMemory(t *testing.T) {
	for what, l := range lists() {
		for _, seq := range []int{0, 2, 7, 1 << 40} {
			x := own(l)
			want, _ := modelSeen(l, seq)
			one, _ := Seen(x, seq)
			two, _ := Seen(x, seq)
			apart(t, "Seen of "+what, []piece{pieceOf(one), pieceOf(two)}, pieceOf(x))
			wiped(one)
			if !slices.Equal(x, l) {
				t.Errorf("P13.5: what Seen of %s answered, wiped, changed the versions", what)
			}
			wiped(x)
			if three, _ := Seen(l, seq); !slices.Equal(two, want) || !slices.Equal(three, want) {
				t.Errorf("P13.5: what Seen of %s answered is not its holder's", what)
			}
		}
	}
}

func TestBetweenAnswersNewMemory(t *testing.T) {
	for _, from := range []string{"", "a", "b", "zz", "\xff\xff\xff"} {
		for _, to := range []string{"", "a", "c", "\x00", "\xff\xff\xff"} {
			for _, l := range [][]api.Pair{nil, pairs()[:1], pairs()} {
				x := ownPairs(l)
				one := Between(x, from, to)
				two := Between(x, from, to)
				apart(t, "Between", []piece{pieceOf(one), pieceOf(two)}, pieceOf(x))
				wiped(one)
				if !slices.Equal(x, l) {
					t.Errorf("P13.5: what Between %q and %q answered, wiped, changed the pairs", from, to)
				}
				wiped(x)
				if !slices.Equal(two, modelBetween(l, from, to)) {
					t.Errorf("P13.5: what Between %q and %q answered is not its holder's", from, to)
				}
			}
		}
	}
}

func TestNothingIsKept(t *testing.T) {
	l := many(40)
	want, _ := modelThin(l, []int{99980}, true)
	for what, x := range given() {
		Check(x)
		Merge([][]api.Entry{x, l})
		Thin(x, []int{3}, false)
		Seen(x, 4)
		if m, e := Thin(l, []int{99980}, true); e != api.OK || !slices.Equal(m, want) {
			t.Errorf("P13.5: Thin behind calls with %s: %s, error %d", what, brief(m), e)
		}
		// What another call saw does not count as seen twice.
		if m, e := Merge([][]api.Entry{l[20:], l[:20]}); e != api.OK || !slices.Equal(m, l) {
			t.Errorf("P13.5: Merge behind calls with %s: %s, error %d", what, brief(m), e)
		}
	}
}

// Several may ask of the same versions at the same time: no call writes to what it is given.
func TestManyAskAtOnce(t *testing.T) {
	l, snaps := own(many(60)), ownSnaps([]int{99970, 3})
	want, _ := modelThin(l, snaps, true)
	var all sync.WaitGroup
	thin := make([][]api.Entry, 8)
	for i := range thin {
		all.Go(func() {
			Merge([][]api.Entry{l[30:], l[:30]})
			p, _ := Seen(l, 99980)
			Between(p, "key/00003", "")
			thin[i], _ = Thin(l, snaps, true)
		})
	}
	all.Wait()
	for i, m := range thin {
		if !slices.Equal(m, want) {
			t.Errorf("P13.5: Thin, goroutine %d: %s; want %s", i, brief(m), brief(want))
		}
	}
}
