package manifest

import (
	"fmt"
	"slices"
	"sync"
	"testing"
	"unsafe"

	"tickler/api"
	"tickler/edit"
	"tickler/files"
)

// piece is a piece of memory: where it begins, and where it ends.
type piece struct{ from, to uintptr }

// pieceOf: the memory of a list, the room behind it too. A list without room still has a place if it points at something.
func pieceOf[T any](l []T) piece {
	var one T
	at := uintptr(unsafe.Pointer(unsafe.SliceData(l)))
	return piece{at, at + uintptr(cap(l))*unsafe.Sizeof(one)}
}

// meet tells whether two pieces share an octet, or one that is empty stands within the other.
func meet(a, b piece) bool {
	if a.from == a.to && a.from != 0 {
		return b.from <= a.from && a.from < b.to
	}
	return a.from < b.to && b.from < a.to
}

// apart fails if a piece of the answers meets an old one, or another of them.
func apart(t *testing.T, what string, answers []piece, old ...piece) {
	t.Helper()
	for i, a := range answers {
		if slices.ContainsFunc(append(slices.Clone(old), answers[:i]...), func(b piece) bool { return meet(a, b) }) {
			t.Errorf("P14.5: %s: the list %d of the answers shares memory", what, i)
		}
	}
}

// roomy: l with something in the room behind it.
func roomy[T any](l []T, behind ...T) []T {
	return append(slices.Clone(l), behind...)[:len(l)]
}

// whole: a list with the room behind it.
func whole[T any](l []T) []T {
	return l[:cap(l)]
}

// wiped clears a list, with the room behind it.
func wiped[T any](l []T) {
	clear(whole(l))
}

// ownFiles: the state in memory of its own, each list with something in the room behind it.
func ownFiles(s files.State) files.State {
	room := files.Name{Name: "room", ID: 99}
	s.Names, s.Safe = roomy(s.Names, room, room), roomy(s.Safe, room, room, room)
	s.Files = roomy(s.Files, files.File{ID: 98}, files.File{ID: 99})
	for i, f := range s.Files {
		s.Files[i].Data = roomy(f.Data, []byte("room behind it")...)
	}
	return s
}

// ownVersion: the version in memory of its own, with something in the room behind its list.
func ownVersion(v edit.Version) edit.Version {
	v.Tables = roomy(v.Tables, table(77, 1, "room", "the room"), table(78, 2, "behind", "it"))
	return v
}

// ownEdit: the edit in memory of its own, with something in the room behind its lists.
func ownEdit(d edit.Edit) edit.Edit {
	d.Drop = roomy(d.Drop, 77, 78, 79)
	d.Add = roomy(d.Add, table(77, 1, "room", "the room"), table(78, 2, "behind", "it"))
	return d
}

// toldFiles: all that a state has, the room behind its lists too, written down.
func toldFiles(s files.State) string {
	return fmt.Sprintf("%d %d %v %v %s", s.Cap, s.Next, whole(s.Names), whole(s.Safe), toldData(s))
}

func toldData(s files.State) string {
	text := ""
	for _, f := range whole(s.Files) {
		text += fmt.Sprintf(" %d:%x/%d", f.ID, whole(f.Data), f.Synced)
	}
	return text
}

func toldVersion(v edit.Version) string {
	return fmt.Sprintf("%+v %d %d", whole(v.Tables), v.Seq, v.Next)
}

func toldEdit(d edit.Edit) string {
	return fmt.Sprintf("%v %+v %d %d", whole(d.Drop), whole(d.Add), d.Seq, d.Next)
}

// piecesOfFiles: the memory of a state.
func piecesOfFiles(s files.State) []piece {
	l := []piece{pieceOf(s.Files), pieceOf(s.Names), pieceOf(s.Safe)}
	for _, f := range s.Files {
		l = append(l, pieceOf(f.Data))
	}
	return l
}

// piecesOfActs: the memory of acts.
func piecesOfActs(l []api.Act) []piece {
	p := []piece{pieceOf(l)}
	for _, a := range l {
		p = append(p, pieceOf(a.Data))
	}
	return p
}

// wipedFiles clears all that a state has.
func wipedFiles(s files.State) {
	for _, f := range s.Files {
		wiped(f.Data)
	}
	wiped(s.Files)
	wiped(s.Names)
	wiped(s.Safe)
}

// wipedActs clears all that acts have.
func wipedActs(l []api.Act) {
	for _, a := range l {
		wiped(a.Data)
	}
	wiped(l)
}

// copied: acts in memory of their own.
func copied(l []api.Act) []api.Act {
	l = slices.Clone(l)
	for i, a := range l {
		l[i].Data = slices.Clone(a.Data)
	}
	return l
}

// given: files that may be, files that may not be, and some that Load refuses.
func given(t *testing.T) map[string]files.State {
	t.Helper()
	all := grounds()
	for what, s := range noStates() {
		all["may not be: "+what] = s
	}
	for what, b := range noCurrents() {
		all["CURRENT: "+what] = disk(of("CURRENT", b), of("m3", first(levels())))
	}
	for what, b := range noEdits(t) {
		all["manifest: "+what] = with(first(levels()), b)
	}
	l, _ := history(t)
	all["a long manifest"] = with(log(l...), []byte("torn"))
	all["many names"] = named("CURRENT", "m3", "m4", "l3", "l4", "l5", "next", "t1", "t12", "t3", "t7", "x")
	return all
}

// givenVersions: versions that may be, and that may not be.
func givenVersions() map[string]edit.Version {
	all := versions()
	for what, v := range noVersions() {
		all["may not be: "+what] = v
	}
	return all
}

// P14.5: P2 of DOC.md

func TestFilesAndVersionsHandedInStay(t *testing.T) {
	for where, s := range given(t) {
		s = ownFiles(s)
		was := toldFiles(s)
		Load(s)
		for what, v := range givenVersions() {
			v = ownVersion(v)
			wasVersion := toldVersion(v)
			for _, id := range []int{0, 2, 3, 300} {
				Begin(s, v, id)
				Orphans(s, v, id, 4)
			}
			if toldVersion(v) != wasVersion {
				t.Errorf("P14.5: %s, %s: the version that was handed in is changed", where, what)
			}
		}
		if toldFiles(s) != was {
			t.Errorf("P14.5: %s: the files that were handed in are changed", where)
		}
	}
}

func TestEditsHandedInStay(t *testing.T) {
	all := edits()
	for what, c := range refusedEdits() {
		all["refused: "+what] = c.d
	}
	for what, d := range all {
		d = ownEdit(d)
		was := toldEdit(d)
		for _, id := range []int{0, 3, lastID, lastID + 1} {
			Note(id, d)
		}
		if toldEdit(d) != was {
			t.Errorf("P14.5: %s: the edit that was handed in is changed", what)
		}
	}
}

func TestBeginAnswersNewMemory(t *testing.T) {
	for where, s := range grounds() {
		for what, v := range versions() {
			s, v := ownFiles(s), ownVersion(v)
			one, _ := Begin(s, v, 3)
			two, _ := Begin(s, v, 3)
			want := copied(two)
			apart(t, "Begin of "+where, slices.Concat(piecesOfActs(one), piecesOfActs(two)), append(piecesOfFiles(s), pieceOf(v.Tables))...)
			wipedActs(one)
			if three, _ := Begin(s, v, 3); !sameActs(three, want) {
				t.Errorf("P14.5: what Begin(%s, %s) answered, wiped, changed what it answers", where, what)
			}
			wipedFiles(s)
			wiped(v.Tables)
			if !sameActs(two, want) {
				t.Errorf("P14.5: what Begin(%s, %s) answered is not its holder's", where, what)
			}
		}
	}
}

func TestNoteAnswersNewMemory(t *testing.T) {
	for what, d := range edits() {
		d = ownEdit(d)
		one, _ := Note(3, d)
		two, _ := Note(3, d)
		want := copied(two)
		apart(t, "Note of "+what, slices.Concat(piecesOfActs(one), piecesOfActs(two)), pieceOf(d.Drop), pieceOf(d.Add))
		wipedActs(one)
		if three, _ := Note(3, d); !sameActs(three, want) {
			t.Errorf("P14.5: what Note of %s answered, wiped, changed what it answers", what)
		}
		wiped(d.Drop)
		wiped(d.Add)
		if !sameActs(two, want) {
			t.Errorf("P14.5: what Note of %s answered is not its holder's", what)
		}
	}
}

func TestLoadAnswersNewMemory(t *testing.T) {
	for where, s := range given(t) {
		s = ownFiles(s)
		one, _, e := Load(s)
		two, id, _ := Load(s)
		want := two
		want.Tables = slices.Clone(two.Tables)
		apart(t, "Load of "+where, []piece{pieceOf(one.Tables), pieceOf(two.Tables)}, piecesOfFiles(s)...)
		wiped(one.Tables)
		if three, n, f := Load(s); !same(three, want) || n != id || f != e {
			t.Errorf("P14.5: what Load of %s answered, wiped, changed what it answers", where)
		}
		wipedFiles(s)
		if !same(two, want) {
			t.Errorf("P14.5: what Load of %s answered is not its holder's", where)
		}
	}
}

func TestOrphansAnswersNewMemory(t *testing.T) {
	for where, s := range given(t) {
		s, v := ownFiles(s), ownVersion(levels())
		one, e := Orphans(s, v, 3, 4)
		two, _ := Orphans(s, v, 3, 4)
		want := slices.Clone(two)
		apart(t, "Orphans of "+where, []piece{pieceOf(one), pieceOf(two)}, append(piecesOfFiles(s), pieceOf(v.Tables))...)
		wiped(one)
		if three, f := Orphans(s, v, 3, 4); !slices.Equal(three, want) || f != e {
			t.Errorf("P14.5: what Orphans of %s answered, wiped, changed what it answers", where)
		}
		wipedFiles(s)
		wiped(v.Tables)
		if !slices.Equal(two, want) {
			t.Errorf("P14.5: what Orphans of %s answered is not its holder's", where)
		}
	}
}

// P3 of DOC.md: many at once on one argument answer what one alone does.
func TestManyAtOnce(t *testing.T) {
	l, versions := history(t)
	s, v, d := with(log(l...)), levels(), l[2]
	acts, _ := Begin(s, v, 4)
	note, _ := Note(4, d)
	orphans, _ := Orphans(s, v, 4, 5)
	var all sync.WaitGroup
	for range 16 {
		all.Go(func() {
			for range 50 {
				a, _ := Begin(s, v, 4)
				b, _ := Note(4, d)
				c, id, e := Load(s)
				o, _ := Orphans(s, v, 4, 5)
				name, _ := Name('t', 12)
				kind, n, ok := Parse("l34")
				if !sameActs(a, acts) || !sameActs(b, note) || !same(c, versions[len(versions)-1]) || id != 3 || e != api.OK || !slices.Equal(o, orphans) || name != "t12" || kind != 'l' || n != 34 || !ok {
					t.Error("P14.5: many calls at once answer otherwise than one")
				}
			}
		})
	}
	all.Wait()
}
