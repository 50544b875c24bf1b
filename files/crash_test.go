package files

import (
	"fmt"
	"math"
	"math/rand"
	"slices"
	"strings"
	"testing"

	"tickler/api"
)

// left fails unless a crash makes want out of s.
func left(t *testing.T, s State, keep []int, want State) {
	t.Helper()
	if n, e := Crash(s, keep); e != api.OK || !same(n, want) {
		t.Errorf("P4.3: Crash(%s, %v): %s, error %d; want %s", told(s), keep, told(n), e, told(want))
	}
}

// P4.3

func TestChaptersExample(t *testing.T) {
	s, _ := New(20)
	s = done(t, s, api.Act{What: 1, Name: "a"}, api.Act{What: 2, Name: "a", Data: []byte("xyz")}, api.Act{What: 3, Name: "a"})
	c, e := Crash(s, nil)
	if e != api.OK {
		t.Fatalf("P4.3: Crash: error %d", e)
	}
	if b, e := Read(c, "a"); len(b) != 0 || e != api.ErrNone {
		t.Errorf("P4.3: Read of a name that was not synced: %q, error %d", b, e)
	}
	if c, e = Crash(done(t, s, api.Act{What: 6}), nil); e != api.OK {
		t.Fatalf("P4.3: Crash: error %d", e)
	}
	if b, e := Read(c, "a"); string(b) != "xyz" || e != api.OK {
		t.Errorf("P4.3: Read of a: %q, error %d", b, e)
	}
}

func TestCrash(t *testing.T) {
	// Of the sample's three files the second, that Safe does not name, is gone; it counts all the same.
	want := func(first string) State {
		return State{
			Cap:   20,
			Files: []File{{ID: 1, Data: []byte(first), Synced: len(first)}, {ID: 7, Data: []byte("12345"), Synced: 5}},
			Names: []Name{{"b", 1}, {"c", 7}},
			Safe:  []Name{{"b", 1}, {"c", 7}},
			Next:  9,
		}
	}
	for _, keep := range [][]int{nil, {}, {0}, {-1}, {math.MinInt}, {0, 5, 5}, {-7, 1}, {0, 0, 0, 9, 9}} {
		left(t, sample(), keep, want("ab"))
	}
	for _, keep := range [][]int{{1}, {2}, {3}, {math.MaxInt}, {math.MaxInt, math.MaxInt, math.MaxInt, 7}, {1, -1, -1}} {
		left(t, sample(), keep, want("abc"))
	}
}

func TestCrashKeepsBeginnings(t *testing.T) {
	files := []File{{ID: 2, Data: []byte("abcdef"), Synced: 2}, {ID: 3, Data: []byte("123"), Synced: 0}, {ID: 8, Data: []byte("UVWXYZ"), Synced: 3}, {ID: 9, Data: []byte("m"), Synced: 1}}
	s := State{Cap: 16, Files: files, Names: []Name{{"p", 3}}, Safe: []Name{{"q", 9}, {"r", 8}, {"s", 2}}, Next: 11}
	for first := -1; first <= 6; first++ {
		for third := -1; third <= 5; third++ {
			a, u := "ab"+"cdef"[:min(max(first, 0), 4)], "UVW"+"XYZ"[:min(max(third, 0), 3)]
			left(t, s, []int{first, 2, third, 1}, State{
				Cap:   16,
				Files: []File{{ID: 2, Data: []byte(a), Synced: len(a)}, {ID: 8, Data: []byte(u), Synced: len(u)}, {ID: 9, Data: []byte("m"), Synced: 1}},
				Names: s.Safe,
				Safe:  s.Safe,
				Next:  11,
			})
		}
	}
}

func TestCrashOfStatesAtTheirEdges(t *testing.T) {
	left(t, State{Cap: 7, Next: 1}, []int{1, 2}, State{Cap: 7, Next: 1})
	left(t, State{Next: 1<<31 - 1}, nil, State{Next: 1<<31 - 1})
	left(t, many(256, true), nil, many(256, true))
	left(t, many(256, false), []int{4}, many(256, true))
	// Names that were not synced are gone, and their files.
	left(t, State{Cap: 3, Files: []File{{ID: 1, Data: []byte("abc"), Synced: 3}}, Names: []Name{{"a", 1}}, Next: 2}, []int{9}, State{Cap: 3, Next: 2})
	// A name that was removed, and the removal not synced, is there again.
	s := done(t, sample(), api.Act{What: 5, Name: "b"})
	c, e := Crash(s, nil)
	if b, f := Read(c, "c"); string(b) != "12345" || e != api.OK || f != api.OK {
		t.Errorf("P4.3: Read of a name that came back: %q, errors %d, %d", b, e, f)
	}
	// Of a second crash there is nothing left to take.
	left(t, c, nil, c)
	left(t, c, []int{-1, 3, math.MaxInt}, c)
}

// P4.5

// synced is what must be there behind any crash: the names, and of each file the octets that it began with at its last sync.
type synced struct {
	names []Name
	data  map[int]string
}

// note keeps in mind what the act, which was taken, has made last.
func (w *synced) note(s State, a api.Act) {
	switch a.What {
	case 3:
		for _, n := range s.Names {
			if n.Name == a.Name {
				b, _ := Read(s, n.Name)
				w.data[n.ID] = string(b)
			}
		}
	case 6:
		w.names = slices.Clone(s.Names)
	}
}

// holds tells what is missing behind a crash, if anything.
func (w *synced) holds(c State) string {
	l, e := List(c)
	if e != api.OK || len(l) != len(w.names) {
		return fmt.Sprintf("List: %q, error %d; synced were %v", l, e, w.names)
	}
	for i, n := range w.names {
		b, e := Read(c, n.Name)
		if l[i] != n.Name || e != api.OK || !strings.HasPrefix(string(b), w.data[n.ID]) {
			return fmt.Sprintf("Read(%s): %q, error %d; synced were %q", n.Name, b, e, w.data[n.ID])
		}
	}
	return ""
}

func TestWhatWasSyncedIsThereBehindAnyCrash(t *testing.T) {
	r := rand.New(rand.NewSource(45))
	for range 300 {
		s, _ := New(100)
		w := &synced{data: map[int]string{}}
		for range 60 {
			a := anyAct(r)
			if next, e := Do(s, a); e == api.OK {
				s = next
				w.note(s, a)
			}
			for _, keep := range [][]int{nil, anyKeep(r), anyKeep(r), slices.Repeat([]int{math.MaxInt}, 9)} {
				c, e := Crash(s, keep)
				if lost := w.holds(c); e != api.OK || lost != "" {
					t.Fatalf("P4.5: Crash(%s, %v): error %d, %s", told(s), keep, e, lost)
				}
				if again, e := Crash(c, anyKeep(r)); e != api.OK || !same(again, c) {
					t.Fatalf("P4.5: a second Crash: %s became %s, error %d", told(c), told(again), e)
				}
			}
		}
	}
}
