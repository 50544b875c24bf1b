package files

import (
	"fmt"
	"math/rand"
	"slices"
	"testing"
	"unsafe"

	"tickler/api"
)

// piece is a piece of memory: where it begins, and where it ends.
type piece struct{ from, to uintptr }

// pieceOf: the memory of a list, the room behind it too. A list without room still has a place if it points at something.
func pieceOf[T any](l []T) piece {
	var one T
	at := uintptr(unsafe.Pointer(unsafe.SliceData(l)))
	return piece{at, at + uintptr(cap(l))*unsafe.Sizeof(one)}
}

// pieces: those of a state.
func pieces(s State) []piece {
	l := []piece{pieceOf(s.Files), pieceOf(s.Names), pieceOf(s.Safe)}
	for _, f := range s.Files {
		l = append(l, pieceOf(f.Data))
	}
	return l
}

// meet tells whether two pieces share an octet.
func meet(a, b piece) bool {
	return a.from < b.to && b.from < a.to
}

// apart fails if a piece of the answers meets an old one, or another of them.
func apart(t *testing.T, what string, answers []piece, old ...piece) {
	t.Helper()
	for i, a := range answers {
		if slices.ContainsFunc(append(slices.Clone(old), answers[:i]...), func(b piece) bool { return meet(a, b) }) {
			t.Errorf("P4.7: %s: the list %d of the answer shares memory", what, i)
		}
	}
}

// roomy: the state, each list of it with something in the room behind it.
func roomy(s State) State {
	room := Name{"room", 99}
	s.Names = append(slices.Clone(s.Names), room, room, room)[:len(s.Names)]
	s.Safe = append(slices.Clone(s.Safe), room, room, room)[:len(s.Safe)]
	s.Files = append(slices.Clone(s.Files), File{ID: 98}, File{ID: 99})[:len(s.Files)]
	for i, f := range s.Files {
		s.Files[i].Data = append(slices.Clone(f.Data), "room behind it"...)[:len(f.Data)]
	}
	return s
}

// whole: a state's lists with the room behind them, written down.
func whole(s State) string {
	text := fmt.Sprint(s.Cap, s.Next, s.Names[:cap(s.Names)], s.Safe[:cap(s.Safe)])
	for _, f := range s.Files[:cap(s.Files)] {
		text += fmt.Sprintf(" %d:%x/%d", f.ID, f.Data[:cap(f.Data)], f.Synced)
	}
	return text
}

// scribbled spoils all that a state holds, the room behind its lists too.
func scribbled(s State) {
	for _, f := range s.Files {
		for i := range f.Data[:cap(f.Data)] {
			f.Data[:cap(f.Data)][i] ^= 0xff
		}
	}
	clear(s.Files[:cap(s.Files)])
	clear(s.Names[:cap(s.Names)])
	clear(s.Safe[:cap(s.Safe)])
}

// stepped: states that many acts make, the sample, one whose lists share their memory, and small ones.
func stepped() []State {
	r := rand.New(rand.NewSource(47))
	one := []byte("one")
	names := []Name{{"a", 1}, {"b", 2}}
	l := []State{sample(), {Next: 1}, {Cap: 5, Files: []File{}, Names: []Name{}, Safe: []Name{}, Next: 4},
		{Cap: 9, Files: []File{{ID: 1, Data: one, Synced: 1}, {ID: 2, Data: one[:2]}}, Names: names, Safe: names, Next: 3}}
	for range 60 {
		l = append(l, grown(r, 10+r.Intn(30)))
	}
	return l
}

// steps: acts of each kind on each name of a few.
func steps() []api.Act {
	var l []api.Act
	for _, name := range []string{"a", "b", "c", "d", "none", ""} {
		data := append([]byte("x"), "yz"...)
		l = append(l, api.Act{What: 1, Name: name}, api.Act{What: 2, Name: name, Data: data[:1]}, api.Act{What: 2, Name: name}, api.Act{What: 3, Name: name}, api.Act{What: 5, Name: name})
		for _, to := range []string{"a", "b", "e", ""} {
			l = append(l, api.Act{What: 4, Name: name, To: to})
		}
	}
	return append(l, api.Act{What: 6}, api.Act{What: 7})
}

// P4.7

func TestWhatIsHandedInStays(t *testing.T) {
	for _, s := range stepped() {
		s = roomy(s)
		was := whole(s)
		keep := []int{1, -1, 7, 2, 99, 98}
		acts := steps()
		for _, a := range acts {
			Do(s, a)
		}
		Run(s, acts[:4])
		Run(s, slices.Concat([]api.Act{{What: 6}, {What: 1, Name: "new"}}, acts))
		Check(s)
		List(s)
		Read(s, "a")
		Read(s, "none")
		Crash(s, keep[:4])
		if whole(s) != was {
			t.Fatalf("P4.7: %s became %s", was, whole(s))
		}
		if !slices.Equal(keep, []int{1, -1, 7, 2, 99, 98}) || fmt.Sprint(acts) != fmt.Sprint(steps()) {
			t.Fatalf("P4.7: keeps or acts changed: %v, %v", keep, acts)
		}
		for _, a := range acts {
			if string(a.Data) != "" && string(a.Data[:3]) != "xyz" {
				t.Fatalf("P4.7: the room behind an act's Data became %q", a.Data[:3])
			}
		}
	}
}

func TestAnswersAreNewMemory(t *testing.T) {
	for _, s := range stepped() {
		s = roomy(s)
		old := pieces(s)
		for _, a := range steps() {
			x, _ := Do(s, a)
			y, _ := Do(s, a)
			data := pieceOf(a.Data)
			apart(t, fmt.Sprintf("Do(%s, %+v)", told(s), a), slices.Concat(pieces(x), pieces(y)), append(old, data)...)
			// Twice, so that the second one finds what the first has laid.
			x, _, _ = Run(s, []api.Act{a, a, {What: 6}, a, a})
			y, _, _ = Run(s, []api.Act{a, a, {What: 6}, a, a})
			apart(t, fmt.Sprintf("Run(%s, %+v)", told(s), a), slices.Concat(pieces(x), pieces(y)), append(old, data)...)
		}
		x, _, _ := Run(s, nil)
		y, _ := Crash(s, []int{1, 1})
		z, _ := Crash(s, []int{1, 1})
		apart(t, "Run of nothing, and Crash", slices.Concat(pieces(x), pieces(y), pieces(z)), old...)
		for _, n := range s.Names {
			b, _ := Read(s, n.Name)
			c, _ := Read(s, n.Name)
			apart(t, "Read", []piece{pieceOf(b), pieceOf(c)}, old...)
		}
		l, _ := List(s)
		m, _ := List(s)
		apart(t, "List", []piece{pieceOf(l), pieceOf(m)}, old...)
	}
}

func TestEmptyAnswersPointAtNothingHandedIn(t *testing.T) {
	s := State{Cap: 9, Files: []File{{ID: 1, Data: make([]byte, 0, 8)}}, Names: make([]Name, 0, 4), Safe: []Name{{"a", 1}}, Next: 2}
	x, _, _ := Run(s, nil)
	if unsafe.SliceData(x.Names) == unsafe.SliceData(s.Names) || unsafe.SliceData(x.Files[0].Data) == unsafe.SliceData(s.Files[0].Data) {
		t.Error("P4.7: an empty list of the answer has the place of one that was handed in")
	}
	s = State{Cap: 9, Files: s.Files, Names: s.Safe, Next: 2}
	if b, _ := Read(s, "a"); unsafe.SliceData(b) == unsafe.SliceData(s.Files[0].Data) {
		t.Error("P4.7: Read's empty answer has the place of what was handed in")
	}
}

func TestAnswersAreTheirHolders(t *testing.T) {
	for _, s := range stepped() {
		was := told(s)
		for _, a := range steps() {
			x, e := Do(s, a)
			y, _ := Do(s, a)
			want := told(y)
			if e != api.OK {
				continue
			}
			scribbled(x)
			z, n, f := Run(s, []api.Act{a})
			if told(s) != was || told(y) != want || told(z) != want || n != 1 || f != api.OK {
				t.Fatalf("P4.7: the answer of Do(%s, %+v), changed, changed %s, %s or %s", was, a, told(s), told(y), told(z))
			}
		}
		for range 3 {
			x, _ := Crash(s, []int{1})
			y, _ := Crash(s, []int{1})
			want := told(y)
			scribbled(x)
			if told(s) != was || told(y) != want {
				t.Fatalf("P4.7: the answer of Crash(%s), changed, changed %s or %s", was, told(s), told(y))
			}
		}
		for _, n := range s.Names {
			b, _ := Read(s, n.Name)
			want := string(b)
			for i := range b {
				b[i] ^= 0xff
			}
			if again, _ := Read(s, n.Name); told(s) != was || string(again) != want {
				t.Fatalf("P4.7: Read's answer, changed, changed %s or %q", told(s), again)
			}
		}
		l, _ := List(s)
		clear(l)
		if again, _ := List(s); told(s) != was || slices.Contains(again, "") {
			t.Fatalf("P4.7: List's answer, changed, changed %s or %q", told(s), again)
		}
	}
}

// What is handed in may be changed behind the call: nothing of it is kept.
func TestNothingIsKept(t *testing.T) {
	data := []byte("xyz")
	s := roomy(sample())
	x, n, e := Run(s, []api.Act{{What: 1, Name: "new"}, {What: 2, Name: "new", Data: data}, {What: 2, Name: "a", Data: data}, {What: 6}})
	y, _ := Crash(x, nil)
	was, left := told(x), told(y)
	copy(data, "???")
	scribbled(s)
	if told(x) != was || n != 4 || e != api.OK {
		t.Errorf("P4.7: %s became %s, error %d", was, told(x), e)
	}
	scribbled(x)
	if told(y) != left {
		t.Errorf("P4.7: %s became %s", left, told(y))
	}
}
