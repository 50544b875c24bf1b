package skip

import (
	"slices"
	"testing"
	"unsafe"

	"tickler/api"
)

// piece is a piece of memory: where it begins, and where it ends.
type piece struct{ from, to uintptr }

// pieceOf: the memory of a list, the room behind it too. A list without room still has a place if it points at something.
func pieceOf[T any](l []T) piece {
	var one T
	at := uintptr(unsafe.Pointer(unsafe.SliceData(l)))
	return piece{at, at + uintptr(cap(l))*unsafe.Sizeof(one)}
}

// meet tells whether two pieces share an octet, or one that is empty stands within the other.
func meet(a, b piece) bool {
	if a.from == a.to && a.from != 0 {
		return b.from <= a.from && a.from < b.to
	}
	return a.from < b.to && b.from < a.to
}

// apart fails if a piece of the answers meets an old one, or another of them.
func apart(t *testing.T, what string, answers []piece, old ...piece) {
	t.Helper()
	for i, a := range answers {
		if slices.ContainsFunc(append(slices.Clone(old), answers[:i]...), func(b piece) bool { return meet(a, b) }) {
			t.Errorf("P7.4: %s: the list %d of the answers shares memory", what, i)
		}
	}
}

// memoryOf: the lists of a state.
func memoryOf(s State) []piece {
	p := []piece{pieceOf(s.Nodes), pieceOf(s.Head)}
	for _, n := range s.Nodes {
		p = append(p, pieceOf(n.Next))
	}
	return p
}

// roomy: l with something in the room behind it.
func roomy[T any](l []T, behind ...T) []T {
	return append(slices.Clone(l), behind...)[:len(l)]
}

// twin: the same state in memory of its own, with something in the room behind each list.
func twin(s State) State {
	c := State{roomy(s.Nodes, Node{put("room", 1), []int{77}}, Node{put("behind", 2), nil}), roomy(s.Head, 71, 72, 73)}
	for k, n := range s.Nodes {
		c.Nodes[k].Next = roomy(n.Next, 81, 82, 83, 84)
	}
	return c
}

// whole: s with what stands in the room behind its lists.
func whole(s State) State {
	w := State{slices.Clone(s.Nodes[:cap(s.Nodes)]), slices.Clone(s.Head[:cap(s.Head)])}
	for k, n := range w.Nodes {
		w.Nodes[k].Next = slices.Clone(n.Next[:cap(n.Next)])
	}
	return w
}

// spoiled turns all ways and nodes of s, those in the room behind them too.
func spoiled(s State) {
	turn := func(l []int) {
		for i := range l {
			l[i] = ^l[i]
		}
	}
	turn(s.Head[:cap(s.Head)])
	for _, n := range s.Nodes {
		turn(n.Next[:cap(n.Next)])
	}
	clear(s.Nodes[:cap(s.Nodes)])
}

// states: lists that may be, and states that may not.
func states() map[string]State {
	l := wrongStates()
	for what, h := range lists() {
		l["a list: "+what] = laid(h)
	}
	l["a full list"] = laid(many(4096))
	return l
}

// P7.4: P2 of DOC.md

func TestStatesHandedInStay(t *testing.T) {
	for what, s := range states() {
		given := twin(s)
		was := whole(given)
		Check(given)
		for _, x := range []api.Entry{put("a", 1), put("a", 3), put("m", 2), gone("z", 9), put("", 1)} {
			for _, h := range []int{0, 1, 2, 8} {
				Put(given, x, h)
			}
			Get(given, x.Key, x.Seq)
		}
		All(given)
		if !same(whole(given), was) {
			t.Errorf("P7.4: %s was changed", what)
		}
	}
}

func TestNewAnswersNewMemory(t *testing.T) {
	one, two := New(), New()
	apart(t, "New", append(memoryOf(one), memoryOf(two)...))
	spoiled(one)
	if three := New(); !same(two, State{Head: make([]int, 8)}) || !same(three, two) {
		t.Errorf("P7.4: New, behind another spoiled: %v, %v", two, three)
	}
}

func TestPutAnswersNewMemory(t *testing.T) {
	for what, l := range lists() {
		for h := 1; h <= 8; h++ {
			given := twin(laid(l))
			was, want := whole(given), laid(append(slices.Clone(l), high{put("m", 6), h}))
			one, _ := Put(given, put("m", 6), h)
			two, _ := Put(given, put("m", 6), h)
			apart(t, "Put to "+what, append(memoryOf(one), memoryOf(two)...), memoryOf(given)...)
			spoiled(one)
			if !same(whole(given), was) {
				t.Errorf("P7.4: what Put answered, spoiled, changed what was handed in (%s)", what)
			}
			spoiled(given)
			if !same(two, want) {
				t.Errorf("P7.4: what Put to %s answered is not its holder's", what)
			}
		}
	}
}

func TestListsOfOneAnswerStandApart(t *testing.T) {
	for what, l := range lists() {
		want := laid(append(slices.Clone(l), high{put("m", 6), 3}))
		for k := range want.Nodes {
			s, _ := Put(laid(l), put("m", 6), 3)
			// Each is spoiled alone, and more is laid behind it, to see that none of the others goes with it.
			next := s.Nodes[k].Next
			clear(append(next[:0], make([]int, cap(next))...))
			s.Nodes[k].Next = slices.Clone(want.Nodes[k].Next)
			if !same(s, want) {
				t.Errorf("P7.4: the ways of node %d, spoiled, changed others (%s)", k, what)
			}
		}
	}
}

func TestPutsFromOneStateAreApart(t *testing.T) {
	l := []high{{put("b", 1), 1}, {put("a", 2), 2}, {put("c", 1), 3}}
	s := built(t, l)
	one, _ := Put(s, put("bb", 1), 2)
	two, _ := Put(s, put("aa", 1), 3)
	if !same(s, laid(l)) || !same(one, laid(append(slices.Clone(l), high{put("bb", 1), 2}))) || !same(two, laid(append(slices.Clone(l), high{put("aa", 1), 3}))) {
		t.Errorf("P7.4: two puts to one state: %v, %v; it is %v", one, two, s)
	}
}

func TestAllAnswersNewMemory(t *testing.T) {
	for what, l := range lists() {
		given := twin(laid(l))
		was := whole(given)
		one, _ := All(given)
		two, _ := All(given)
		apart(t, "All of "+what, []piece{pieceOf(one), pieceOf(two)}, memoryOf(given)...)
		clear(one[:cap(one)])
		if !same(whole(given), was) {
			t.Errorf("P7.4: what All answered, spoiled, changed what was handed in (%s)", what)
		}
		spoiled(given)
		if !slices.Equal(two, versions(l)) {
			t.Errorf("P7.4: what All of %s answered is not its holder's", what)
		}
	}
}

func TestNothingIsKept(t *testing.T) {
	l := many(50)
	s := laid(l)
	first, _ := All(s)
	Put(s, put("kept", 1), 8)
	Get(s, "kept", 1)
	All(laid(many(9)))
	if again, _ := All(s); !slices.Equal(again, first) {
		t.Errorf("P7.4: All of one list, twice: %d versions, then %d", len(first), len(again))
	}
}
