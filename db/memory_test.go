package db

import (
	"fmt"
	"slices"
	"sync"
	"testing"
	"unsafe"

	"tickler/api"
	"tickler/edit"
	"tickler/files"
	"tickler/skip"
)

// piece is a piece of memory: where it begins, and where it ends.
type piece struct{ from, to uintptr }

// pieceOf: the memory of a list, the room behind it too. A list without room still has a place if it points at something.
func pieceOf[T any](l []T) piece {
	var one T
	at := uintptr(unsafe.Pointer(unsafe.SliceData(l)))
	return piece{at, at + uintptr(cap(l))*unsafe.Sizeof(one)}
}

// meet tells whether two pieces share an octet, or one that is empty stands within the other.
func meet(a, b piece) bool {
	if a.from == a.to && a.from != 0 {
		return b.from <= a.from && a.from < b.to
	}
	return a.from < b.to && b.from < a.to
}

// apart fails if a piece of the answers meets an old one, or another of them.
func apart(t *testing.T, what string, answers []piece, old ...piece) {
	t.Helper()
	for i, a := range answers {
		if slices.ContainsFunc(append(slices.Clone(old), answers[:i]...), func(b piece) bool { return meet(a, b) }) {
			t.Errorf("P15.8: %s: the list %d of the answers shares memory", what, i)
		}
	}
}

// roomy: l with something in the room behind it.
func roomy[T any](l []T, behind ...T) []T {
	return append(slices.Clone(l), behind...)[:len(l)]
}

// full: a list with the room behind it.
func full[T any](l []T) []T {
	return l[:cap(l)]
}

// wiped clears a list, with the room behind it.
func wiped[T any](l []T) {
	clear(full(l))
}

// ownFiles: the files in memory of their own, each list with something in the room behind it.
func ownFiles(f files.State) files.State {
	room := files.Name{Name: "room", ID: 99}
	f.Names, f.Safe = roomy(f.Names, room, room), roomy(f.Safe, room, room, room)
	f.Files = roomy(f.Files, files.File{ID: 98}, files.File{ID: 99})
	for i, x := range f.Files {
		f.Files[i].Data = roomy(x.Data, []byte("room behind it")...)
	}
	return f
}

// own: the store in memory of its own, each list with something in the room behind it.
func own(s State) State {
	s.Files = ownFiles(s.Files)
	s.Version.Tables = roomy(s.Version.Tables, edit.Meta{ID: 77, Level: 1, Count: 3, Low: "room", High: "the room"}, edit.Meta{ID: 78})
	s.Mem.Head = roomy(s.Mem.Head, 5, 6, 7)
	s.Mem.Nodes = roomy(s.Mem.Nodes, skip.Node{Entry: is("room", 7, "x"), Next: []int{0}}, skip.Node{})
	for i, n := range s.Mem.Nodes {
		s.Mem.Nodes[i].Next = roomy(n.Next, 8, 9)
	}
	s.Snaps = roomy(s.Snaps, 3, 4, 5)
	return s
}

// toldFiles: all that files have, the room behind their lists too, written down.
func toldFiles(f files.State) string {
	text := fmt.Sprintf("%d %d %v %v", f.Cap, f.Next, full(f.Names), full(f.Safe))
	for _, x := range full(f.Files) {
		text += fmt.Sprintf(" %d:%x/%d", x.ID, full(x.Data), x.Synced)
	}
	return text
}

// toldStore: all that a store has, likewise.
func toldStore(s State) string {
	text := fmt.Sprintf("%s %v %d %d %d %d %v %d %v", toldFiles(s.Files), full(s.Version.Tables), s.Version.Seq, s.Version.Next, s.Manifest, s.Log, full(s.Mem.Head), s.Seq, full(s.Snaps))
	for _, n := range full(s.Mem.Nodes) {
		text += fmt.Sprintf(" %q %v", fmt.Sprint(n.Entry), full(n.Next))
	}
	return text
}

// piecesOfFiles: the memory of files.
func piecesOfFiles(f files.State) []piece {
	l := []piece{pieceOf(f.Files), pieceOf(f.Names), pieceOf(f.Safe)}
	for _, x := range f.Files {
		l = append(l, pieceOf(x.Data))
	}
	return l
}

// pieces: the memory of a store.
func pieces(s State) []piece {
	l := append(piecesOfFiles(s.Files), pieceOf(s.Version.Tables), pieceOf(s.Mem.Nodes), pieceOf(s.Mem.Head), pieceOf(s.Snaps))
	for _, n := range s.Mem.Nodes {
		l = append(l, pieceOf(n.Next))
	}
	return l
}

// piecesOfActs: the memory of acts.
func piecesOfActs(l []api.Act) []piece {
	p := []piece{pieceOf(l)}
	for _, a := range l {
		p = append(p, pieceOf(a.Data))
	}
	return p
}

// wipedFiles clears all that files have.
func wipedFiles(f files.State) {
	for _, x := range f.Files {
		wiped(x.Data)
	}
	wiped(f.Files)
	wiped(f.Names)
	wiped(f.Safe)
}

// wipedStore clears all that a store has.
func wipedStore(s State) {
	wipedFiles(s.Files)
	wiped(s.Version.Tables)
	for _, n := range s.Mem.Nodes {
		wiped(n.Next)
	}
	wiped(s.Mem.Nodes)
	wiped(s.Mem.Head)
	wiped(s.Snaps)
}

// wipedActs clears all that acts have.
func wipedActs(l []api.Act) {
	for _, a := range l {
		wiped(a.Data)
	}
	wiped(l)
}

// copiedActs: acts in memory of their own.
func copiedActs(l []api.Act) []api.Act {
	l = slices.Clone(l)
	for i, a := range l {
		l[i].Data = slices.Clone(a.Data)
	}
	return l
}

// writers: all calls that answer a store.
func writers(changes []api.Change, draws []uint64) map[string]writer {
	return map[string]writer{
		"Write":   func(s State) (State, []api.Act, api.Errno) { return Write(s, changes, draws) },
		"Flush":   flush,
		"Compact": func(s State) (State, []api.Act, api.Errno) { s, _, l, e := Compact(s); return s, l, e },
		"Snap":    func(s State) (State, []api.Act, api.Errno) { s, _, e := Snap(s); return s, nil, e },
		"Drop":    func(s State) (State, []api.Act, api.Errno) { s, e := Drop(s, 3); return s, nil, e },
		"Drop of the last": func(s State) (State, []api.Act, api.Errno) {
			s, e := Drop(s, slices.Max(append(slices.Clone(s.Snaps), -1)))
			return s, nil, e
		},
	}
}

// given: stores that may be, at the edges, with tables that are merged next, and some that may not be.
func given() map[string]State {
	all := mayBe()
	delete(all, "4096 versions in the list")
	s := made(12, []api.Entry{is("b", 12, "x"), isnt("a", 11)}, run{0, row(3, 1)}, run{0, row(2, 4)}, run{0, []api.Entry{isnt("k0001", 8)}}, run{0, row(1, 9)}, run{1, row(1, 10)}, run{3, []api.Entry{is("z", 1, "z")}})
	s.Snaps = []int{0, 3, 12}
	all["merged next"] = s
	all["merged next, at the bottom"] = made(300, nil, run{1, row(150, 1)})
	for what, s := range mayNotBe() {
		if len(s.Mem.Nodes) < 100 {
			all["may not be: "+what] = s
		}
	}
	return all
}

// P15.8: P2 of DOC.md

func TestStoresHandedInStay(t *testing.T) {
	changes := roomy(some(5), gone("room"), set("behind", "it"))
	draws := roomy([]uint64{4, 0, 16}, 77, 78)
	wasChanges, wasDraws := fmt.Sprint(full(changes)), fmt.Sprint(full(draws))
	for what, s := range given() {
		s = own(s)
		was := toldStore(s)
		for _, do := range writers(changes, draws) {
			do(s)
		}
		for _, do := range calls() {
			do(s)
		}
		Check(s)
		for _, n := range []int{-1, 0, 9, s.Seq} {
			Get(s, "a", n)
			Scan(s, "", "", n)
		}
		Open(s.Files)
		if toldStore(s) != was {
			t.Errorf("P15.8: %s: the store that was handed in is changed", what)
		}
	}
	if fmt.Sprint(full(changes)) != wasChanges || fmt.Sprint(full(draws)) != wasDraws {
		t.Error("P15.8: Write: what was handed in is changed")
	}
}

func TestFilesHandedInStay(t *testing.T) {
	_, l := version()
	for what, f := range map[string]files.State{
		"a log":     disk(append(l, of("l3", batches(7, some(9))), of("t9", []byte("waste")))...),
		"not whole": disk(l[1:]...),
		"loose":     disk(append(l, entry{name: "l3", data: batches(7, some(9)), loose: 20, fresh: true}, entry{name: "x", lost: true})...),
		"no room":   {Cap: 10, Next: 1},
	} {
		f = ownFiles(f)
		was := toldFiles(f)
		Open(f)
		if toldFiles(f) != was {
			t.Errorf("P15.8: Open, %s: the files that were handed in are changed", what)
		}
	}
}

func TestStoresAnsweredAreTheirHolders(t *testing.T) {
	for what, g := range given() {
		for name := range writers(nil, nil) {
			changes, draws := some(5), []uint64{4, 0, 16}
			do := writers(changes, draws)[name]
			s := own(g)
			one, acts, e := do(s)
			two, told, _ := do(s)
			want, wantActs := copied(two), copiedActs(told)
			if e != api.OK {
				want = State{}
			}
			apart(t, name+", "+what, slices.Concat(pieces(one), pieces(two), piecesOfActs(acts), piecesOfActs(told)), append(pieces(s), pieceOf(changes), pieceOf(draws))...)
			wipedStore(one)
			wipedActs(acts)
			if three, l, e3 := do(s); !same(three, want) || !sameActs(l, wantActs) || e3 != e {
				t.Errorf("P15.8: what %s of %s answered, wiped, changed what it answers", name, what)
			}
			wipedStore(s)
			wiped(changes)
			wiped(draws)
			if !same(two, want) || !sameActs(told, wantActs) {
				t.Errorf("P15.8: what %s of %s answered is not its holder's", name, what)
			}
		}
	}
}

func TestOpenAnswersNewMemory(t *testing.T) {
	_, l := version()
	for what, f := range map[string]files.State{
		"no files":      disk(),
		"tables":        disk(l...),
		"a log":         disk(append(l, of("l3", batches(7, some(9))), of("t9", []byte("waste")))...),
		"many versions": disk(of("l3", many(1, 5000, 30, map[string]string{}))),
	} {
		f = ownFiles(f)
		one, acts, _ := Open(f)
		two, told, e := Open(f)
		want, wantActs := copied(two), copiedActs(told)
		apart(t, "Open of "+what, slices.Concat(pieces(one), pieces(two), piecesOfActs(acts), piecesOfActs(told)), piecesOfFiles(f)...)
		wipedStore(one)
		wipedActs(acts)
		if three, l, e3 := Open(f); !same(three, want) || !sameActs(l, wantActs) || e3 != e {
			t.Errorf("P15.8: what Open of %s answered, wiped, changed what it answers", what)
		}
		wipedFiles(f)
		if !same(two, want) || !sameActs(told, wantActs) || e != api.OK {
			t.Errorf("P15.8: what Open of %s answered is not its holder's: error %d", what, e)
		}
	}
}

func TestScanAnswersNewMemory(t *testing.T) {
	for what, s := range given() {
		s = own(s)
		one, e := Scan(s, "", "", 0)
		if e != api.OK {
			continue
		}
		one, _ = Scan(s, "a", "", s.Seq)
		two, _ := Scan(s, "a", "", s.Seq)
		want := slices.Clone(two)
		apart(t, "Scan of "+what, []piece{pieceOf(one), pieceOf(two)}, pieces(s)...)
		wiped(one)
		if three, _ := Scan(s, "a", "", s.Seq); !slices.Equal(three, want) {
			t.Errorf("P15.8: what Scan of %s answered, wiped, changed what it answers", what)
		}
		wipedStore(s)
		if !slices.Equal(two, want) {
			t.Errorf("P15.8: what Scan of %s answered is not its holder's", what)
		}
	}
}

// P3 of DOC.md: many at once on one argument answer what one alone does.
func TestManyAtOnce(t *testing.T) {
	s := given()["merged next"]
	_, l := version()
	f := disk(append(l, of("l3", batches(7, some(9))), of("t9", []byte("waste")))...)
	wantOpen, wantActs, _ := Open(f)
	wantScan, _ := Scan(s, "", "", 12)
	do := writers(some(5), []uint64{4, 0, 16})
	want, acts := map[string]State{}, map[string][]api.Act{}
	for name, call := range do {
		var e api.Errno
		if want[name], acts[name], e = call(s); e != api.OK && name != "Snap" {
			t.Fatalf("P15.8: %s: error %d", name, e)
		}
	}
	var all sync.WaitGroup
	for range 8 {
		all.Go(func() {
			for range 10 {
				for name, call := range do {
					if next, l, _ := call(s); !same(next, want[name]) || !sameActs(l, acts[name]) {
						t.Errorf("P15.8: many calls of %s at once answer otherwise than one", name)
					}
				}
				next, l, e := Open(f)
				p, _ := Scan(s, "", "", 12)
				v, ok, _ := Get(s, "b", 12)
				if !same(next, wantOpen) || !sameActs(l, wantActs) || e != api.OK || !slices.Equal(p, wantScan) || v != "x" || !ok || Check(s) != api.OK {
					t.Error("P15.8: many calls at once answer otherwise than one")
				}
			}
		})
	}
	all.Wait()
}
