package db

import (
	"fmt"
	"math"
	"slices"
	"strings"
	"testing"

	"tickler/api"
	"tickler/edit"
	"tickler/files"
	"tickler/skip"
)

func TestTheExample(t *testing.T) {
	f, _ := files.New(1 << 20)
	s, _, _ := Write(opened(t, f), []api.Change{set("a", "x")}, nil)
	c, _ := files.Crash(s.Files, nil)
	if v, ok, e := Get(opened(t, c), "a", 1); v != "x" || !ok || e != api.OK {
		t.Errorf("P15.1: behind a crash a is %q, %t, error %d; want x", v, ok, e)
	}
}

// ground: a store that may be, with all that one can have.
func ground() State {
	s := made(12, []api.Entry{is("b", 12, "x"), isnt("a", 11), is("a", 10, "y")},
		run{0, []api.Entry{is("a", 9, "z"), is("c", 8, "c")}}, run{1, row(7, 1)})
	s.Snaps = []int{0, 3, 9}
	return s
}

// mayBe: stores that may be, at the edges.
func mayBe() map[string]State {
	all := map[string]State{"ground": ground()}
	change := func(what string, do func(s *State)) {
		s := ground()
		do(&s)
		all[what] = s
	}
	change("empty lists", func(s *State) {
		*s = State{Files: files.State{Files: []files.File{}, Names: []files.Name{}, Next: 1}, Version: edit.Version{Tables: []edit.Meta{}, Next: 1}, Manifest: 1, Log: 1, Mem: skip.New(), Snaps: []int{}}
	})
	change("no files", func(s *State) { s.Files = files.State{Next: 1} })
	change("Seq is Version.Seq", func(s *State) { s.Seq, s.Version.Seq = 12, 12 })
	change("Seq at the top", func(s *State) { s.Seq = lastSeq })
	change("Version.Seq at the top too", func(s *State) { s.Seq, s.Version.Seq = lastSeq, lastSeq })
	change("the highest numbers", func(s *State) { s.Manifest, s.Log = lastID, lastID })
	change("the lowest numbers", func(s *State) { s.Manifest, s.Log = 1, 1 })
	change("no snapshots", func(s *State) { s.Snaps = nil })
	change("a snapshot of 0", func(s *State) { s.Snaps = []int{0} })
	change("a snapshot of Seq", func(s *State) { s.Snaps = []int{12} })
	change("snapshots of both", func(s *State) { s.Snaps = []int{0, 12} })
	change("16 snapshots", func(s *State) { s.Seq, s.Snaps = 20, []int{1, 2, 3, 4, 5, 6, 7, 8, 9, 10, 11, 12, 13, 14, 15, 16} })
	change("a snapshot at the top", func(s *State) { s.Seq, s.Snaps = lastSeq, []int{lastSeq} })
	change("4096 versions in the list", func(s *State) { s.Mem, s.Seq = filled(4096), 4096 })
	change("no versions in the list", func(s *State) { s.Mem = skip.New() })
	change("files that do not last", func(s *State) { s.Files = disk(entry{name: "CURRENT", lost: true}, entry{name: "x", fresh: true}) })
	return all
}

// mayNotBe: stores each with a single thing wrong.
func mayNotBe() map[string]State {
	all := map[string]State{"nothing": {}}
	change := func(what string, do func(s *State)) {
		s := ground()
		do(&s)
		all[what] = s
	}
	change("Cap below 0", func(s *State) { s.Files.Cap = -1 })
	change("files of no number", func(s *State) { s.Files.Next = 0 })
	change("a file too long", func(s *State) { s.Files.Files[0].Synced = 1 << 20 })
	change("a name that may not be", func(s *State) { s.Files.Names[0].Name = "" })
	change("a file that has no name", func(s *State) { s.Files.Names, s.Files.Safe = s.Files.Names[1:], s.Files.Safe[1:] })
	change("no number for the next table", func(s *State) { s.Version.Next = 0 })
	change("a table above the next", func(s *State) { s.Version.Next = 2 })
	change("tables out of order", func(s *State) { slices.Reverse(s.Version.Tables) })
	change("a table without versions", func(s *State) { s.Version.Tables[0].Count = 0 })
	change("a version's Seq below 0", func(s *State) { s.Version.Seq = -1 })
	change("a list without a head", func(s *State) { s.Mem.Head = nil })
	change("a list whose nodes go round", func(s *State) { s.Mem.Nodes[0].Next[0] = 1 })
	change("a version in the list without a key", func(s *State) { s.Mem.Nodes[0].Entry.Key = "" })
	change("4097 versions in the list", func(s *State) { s.Mem, s.Seq = filled(4097), 4097 })
	for _, id := range badIDs() {
		change(fmt.Sprint("the manifest ", id), func(s *State) { s.Manifest = id })
		change(fmt.Sprint("the log ", id), func(s *State) { s.Log = id })
	}
	change("Seq below Version.Seq", func(s *State) { s.Seq, s.Snaps = 8, nil })
	change("Seq just below Version.Seq", func(s *State) { s.Version.Seq = 13 })
	change("Seq below 0", func(s *State) { s.Seq, s.Snaps = -1, nil })
	change("Seq above the top", func(s *State) { s.Seq = lastSeq + 1 })
	change("Seq far above the top", func(s *State) { s.Seq = math.MaxInt })
	change("Seq far below 0", func(s *State) { s.Seq, s.Snaps = math.MinInt, nil })
	change("both Seq above the top", func(s *State) { s.Seq, s.Version.Seq = lastSeq+1, lastSeq+1 })
	change("17 snapshots", func(s *State) { s.Seq, s.Snaps = 20, []int{1, 2, 3, 4, 5, 6, 7, 8, 9, 10, 11, 12, 13, 14, 15, 16, 17} })
	change("snapshots that fall", func(s *State) { s.Snaps = []int{3, 2} })
	change("a snapshot twice", func(s *State) { s.Snaps = []int{3, 3} })
	change("a snapshot of 0 twice", func(s *State) { s.Snaps = []int{0, 0} })
	change("a last snapshot that falls", func(s *State) { s.Snaps = []int{1, 2, 9, 8} })
	change("a snapshot below 0", func(s *State) { s.Snaps = []int{-1} })
	change("a snapshot far below 0", func(s *State) { s.Snaps = []int{math.MinInt, 3} })
	change("a snapshot above Seq", func(s *State) { s.Snaps = []int{13} })
	change("a last snapshot above Seq", func(s *State) { s.Snaps = []int{0, 3, 13} })
	change("a snapshot far above Seq", func(s *State) { s.Snaps = []int{math.MaxInt} })
	change("a snapshot far above Seq, and one more", func(s *State) { s.Snaps = []int{math.MaxInt, math.MinInt} })
	return all
}

// badIDs: numbers that no file's name may have.
func badIDs() []int {
	return []int{0, -1, lastID + 1, 1 << 32, 1<<32 + 1, math.MaxInt, math.MinInt}
}

// P15.1: Check

func TestCheckOfStoresThatMayBe(t *testing.T) {
	for what, s := range mayBe() {
		if e := Check(s); e != api.OK {
			t.Errorf("P15.1: Check, %s: error %d", what, e)
		}
	}
}

func TestCheckOfStoresThatMayNotBe(t *testing.T) {
	for what, s := range mayNotBe() {
		if e := Check(s); e != api.ErrState {
			t.Errorf("P15.1: Check, %s: error %d; want ErrState", what, e)
		}
	}
}

// calls: all that take a store, with arguments that they refuse themselves where there are such; each tells whether all but its error is zero or empty.
func calls() map[string]func(s State) (bool, api.Errno) {
	bare := func(s State, l []api.Act) bool { return same(s, State{}) && len(l) == 0 }
	return map[string]func(s State) (bool, api.Errno){
		"Write": func(s State) (bool, api.Errno) {
			s, l, e := Write(s, []api.Change{set("a", "x")}, nil)
			return bare(s, l), e
		},
		"Write of nothing": func(s State) (bool, api.Errno) {
			s, l, e := Write(s, nil, []uint64{4})
			return bare(s, l), e
		},
		"Write of no key": func(s State) (bool, api.Errno) {
			s, l, e := Write(s, []api.Change{set("", "x")}, nil)
			return bare(s, l), e
		},
		"Get": func(s State) (bool, api.Errno) {
			v, ok, e := Get(s, "a", 0)
			return v == "" && !ok, e
		},
		"Get below 0": func(s State) (bool, api.Errno) {
			v, ok, e := Get(s, "a", -1)
			return v == "" && !ok, e
		},
		"Scan": func(s State) (bool, api.Errno) {
			l, e := Scan(s, "", "", 0)
			return len(l) == 0, e
		},
		"Scan above all": func(s State) (bool, api.Errno) {
			l, e := Scan(s, "b", "a", math.MaxInt)
			return len(l) == 0, e
		},
		"Flush": func(s State) (bool, api.Errno) {
			s, l, e := Flush(s)
			return bare(s, l), e
		},
		"Compact": func(s State) (bool, api.Errno) {
			s, did, l, e := Compact(s)
			return bare(s, l) && !did, e
		},
		"Snap": func(s State) (bool, api.Errno) {
			s, n, e := Snap(s)
			return bare(s, nil) && n == 0, e
		},
		"Drop": func(s State) (bool, api.Errno) {
			s, e := Drop(s, 3)
			return bare(s, nil), e
		},
		"Drop of none": func(s State) (bool, api.Errno) {
			s, e := Drop(s, 77)
			return bare(s, nil), e
		},
	}
}

// P15.1: all others first Check's error. P15.7, too.
func TestAllOthersTellChecksErrorFirst(t *testing.T) {
	for what, s := range mayNotBe() {
		for name, call := range calls() {
			if none, e := call(s); e != api.ErrState || !none {
				t.Errorf("P15.1: %s, %s: error %d, nothing beside it: %t; want ErrState", name, what, e, none)
			}
		}
	}
}

// P1 of DOC.md: of stores that may be none of the calls panics, whatever files there are, and beside an error there is nothing.
func TestCallsOfStoresThatMayBe(t *testing.T) {
	for what, s := range mayBe() {
		for name, call := range calls() {
			if none, e := call(s); e == api.ErrState || e != api.OK && !none {
				t.Errorf("P15.7: %s, %s: error %d, nothing beside it: %t", name, what, e, none)
			}
		}
	}
}

// P15.4

func TestSnapTakesSeq(t *testing.T) {
	for _, snaps := range [][]int{nil, {}, {0}, {3, 9}, {0, 1, 2, 3, 4, 5, 6, 7, 8, 9, 10, 11}, {-12}} {
		s := ground()
		s.Snaps = slices.DeleteFunc(snaps, func(n int) bool { return n < 0 })
		want := s
		want.Snaps = append(slices.Clone(s.Snaps), 12)
		if next, n, e := Snap(s); !same(next, want) || n != 12 || e != api.OK {
			t.Errorf("P15.4: Snap, %v taken: %v, %d, error %d", snaps, next.Snaps, n, e)
		}
	}
}

func TestSnapOfAnEmptyStore(t *testing.T) {
	s := opened(t, disk())
	next, n, e := Snap(s)
	if n != 0 || e != api.OK || !slices.Equal(next.Snaps, []int{0}) {
		t.Errorf("P15.4: Snap of an empty store: %v, %d, error %d", next.Snaps, n, e)
	}
	tells(t, "at the number 0", next, 0, nil)
	next = written(t, next, set("a", "x"))
	tells(t, "at the number 0, later", next, 0, nil)
}

func TestSnapTwiceAtOneNumber(t *testing.T) {
	s := ground()
	one := snapped(t, s)
	two, n, e := Snap(one)
	if !same(two, one) || n != 12 || e != api.OK {
		t.Errorf("P15.4: Snap once more: %v, %d, error %d; want %v", two.Snaps, n, e, one.Snaps)
	}
	three, e := Drop(two, 12)
	if e != api.OK || !same(three, s) {
		t.Errorf("P15.4: a number that was taken twice, dropped: %v, error %d", three.Snaps, e)
	}
	if _, e := Drop(three, 12); e != api.ErrNone {
		t.Errorf("P15.4: a number that was taken twice, dropped twice: error %d; want ErrNone", e)
	}
}

func TestSnapOfMoreThanSixteen(t *testing.T) {
	s := opened(t, disk())
	for i := range 16 {
		s = snapped(t, written(t, s, set("a", fmt.Sprint(i))))
	}
	if next, n, e := Snap(s); n != 16 || e != api.OK || !same(next, s) {
		t.Errorf("P15.4: Snap where 16 are, of one of them: %d, error %d", n, e)
	}
	s = written(t, s, set("a", "x"))
	if next, n, e := Snap(s); n != 0 || e != api.ErrFull || !same(next, State{}) {
		t.Errorf("P15.4: Snap of a 17th: %d, error %d; want ErrFull", n, e)
	}
	for i := range 16 {
		tells(t, "16 snapshots", s, i+1, []api.Pair{{Key: "a", Value: fmt.Sprint(i)}})
	}
	s, e := Drop(s, 5)
	if e != api.OK {
		t.Fatalf("P15.4: Drop: error %d", e)
	}
	s = snapped(t, s)
	if want := []int{1, 2, 3, 4, 6, 7, 8, 9, 10, 11, 12, 13, 14, 15, 16, 17}; !slices.Equal(s.Snaps, want) {
		t.Errorf("P15.4: the snapshots are %v, want %v", s.Snaps, want)
	}
}

func TestDropTakesOneAway(t *testing.T) {
	for _, snap := range []int{0, 3, 9} {
		s := ground()
		want := ground()
		want.Snaps = slices.DeleteFunc([]int{0, 3, 9}, func(n int) bool { return n == snap })
		if next, e := Drop(s, snap); e != api.OK || !same(next, want) {
			t.Errorf("P15.4: Drop of %d: %v, error %d; want %v", snap, next.Snaps, e, want.Snaps)
		}
	}
}

func TestDropOfNone(t *testing.T) {
	for _, snap := range []int{-1, 1, 2, 4, 8, 10, 12, 13, math.MaxInt, math.MinInt} {
		if next, e := Drop(ground(), snap); e != api.ErrNone || !same(next, State{}) {
			t.Errorf("P15.4: Drop of %d: %v, error %d; want ErrNone", snap, next.Snaps, e)
		}
	}
	s := ground()
	s.Snaps = nil
	if _, e := Drop(s, 0); e != api.ErrNone {
		t.Errorf("P15.4: Drop of 0 where none is: error %d; want ErrNone", e)
	}
}

// Neither looks at the tables.
func TestSnapAndDropWithoutTables(t *testing.T) {
	s := ground()
	s.Files = files.State{Next: 1}
	if next, n, e := Snap(s); n != 12 || e != api.OK || len(next.Snaps) != 4 {
		t.Errorf("P15.4: Snap without tables: %d, error %d", n, e)
	}
	if next, e := Drop(s, 3); e != api.OK || len(next.Snaps) != 2 {
		t.Errorf("P15.4: Drop without tables: error %d", e)
	}
}

// P15.2: Get and Scan

// keysOf: keys that a store may tell, and some that it does not.
func keysOf(s State) []string {
	l := []string{"", "a", "aa", "b", "c", "k", "k0", "k0000", "k0003", "k0006", "k0007", "z", "\x00", "\xff", strings.Repeat("k", 97), strings.Repeat("k", 5000)}
	pairs := modelScan(s, "", "", s.Seq)
	for i, p := range pairs {
		if i < 10 || i%1000 == 0 || i == len(pairs)-1 {
			l = append(l, p.Key)
		}
	}
	return l
}

func TestGetAndScanAtEachNumber(t *testing.T) {
	all := mayBe()
	all["deep"] = made(500, []api.Entry{is("k0003", 500, "new"), isnt("k0004", 490)},
		run{0, []api.Entry{is("a", 300, "a"), isnt("k0005", 299)}}, run{0, []api.Entry{is("k0005", 298, "o"), is("k0006", 297, "p")}},
		run{1, []api.Entry{isnt("k0001", 200), is("k0001", 190, "q"), isnt("k0001", 180)}}, run{2, []api.Entry{is("k0008", 150, "r")}}, run{3, row(100, 1)})
	for what, s := range all {
		if _, e := Scan(s, "", "", 0); e != api.OK {
			if what != "no files" && what != "files that do not last" {
				t.Errorf("P15.2: Scan, %s: error %d", what, e)
			}
			continue
		}
		numbers := []int{0, 1, 5, 8, 9, 10, 11, s.Seq - 1, s.Seq}
		for _, n := range append(numbers, s.Snaps...) {
			if n < 0 || n > s.Seq {
				continue
			}
			want := modelScan(s, "", "", n)
			tells(t, what, s, n, want)
			for _, key := range keysOf(s) {
				i := slices.IndexFunc(want, func(p api.Pair) bool { return p.Key == key })
				v, ok, e := Get(s, key, n)
				if e != api.OK || ok != (i >= 0) || ok && v != want[i].Value || !ok && v != "" {
					t.Errorf("P15.2: %s: Get(%.9q) at %d: %q, %t, error %d; want %s", what, key, n, v, ok, e, brief(want))
				}
			}
		}
	}
}

func TestGetByHand(t *testing.T) {
	s := ground()
	for _, c := range []struct {
		key   string
		seq   int
		value string
		ok    bool
	}{
		{"a", 12, "", false}, {"a", 11, "", false}, {"a", 10, "y", true}, {"a", 9, "z", true}, {"a", 8, "", false}, {"a", 0, "", false},
		{"b", 12, "x", true}, {"b", 11, "", false}, {"c", 12, "c", true}, {"c", 8, "c", true}, {"c", 7, "", false},
		{"k0000", 12, "0", true}, {"k0000", 1, "0", true}, {"k0000", 0, "", false}, {"k0006", 7, "6", true}, {"k0006", 6, "", false}, {"k0007", 12, "", false},
		{"", 12, "", false}, {strings.Repeat("a", 97), 12, "", false},
	} {
		if v, ok, e := Get(s, c.key, c.seq); v != c.value || ok != c.ok || e != api.OK {
			t.Errorf("P15.2: Get(%.9q) at %d: %q, %t, error %d; want %q, %t", c.key, c.seq, v, ok, e, c.value, c.ok)
		}
	}
	want := []api.Pair{{Key: "b", Value: "x"}, {Key: "c", Value: "c"}, {Key: "k0000", Value: "0"}, {Key: "k0001", Value: "1"}}
	if l, e := Scan(s, "", "k0002", 12); e != api.OK || !slices.Equal(l, want) {
		t.Errorf("P15.2: Scan below k0002: %s, error %d; want %s", brief(l), e, brief(want))
	}
	if l, e := Scan(s, "", "", 0); e != api.OK || len(l) != 0 {
		t.Errorf("P15.2: Scan at 0: %s, error %d; want none", brief(l), e)
	}
}

func TestGetOfAnEmptyValue(t *testing.T) {
	s := made(2, []api.Entry{is("a", 2, "")}, run{0, []api.Entry{is("b", 1, "")}})
	for _, key := range []string{"a", "b"} {
		if v, ok, e := Get(s, key, 2); v != "" || !ok || e != api.OK {
			t.Errorf("P15.2: Get(%s) of an empty value: %q, %t, error %d", key, v, ok, e)
		}
	}
}

func TestScanBetween(t *testing.T) {
	s := ground()
	ends := []string{"", "\x00", "a", "a\x00", "b", "b\x00", "c", "k", "k0000", "k0003", "k0003\x00", "k0004", "k0006", "k0006\x00", "z", "\xff", strings.Repeat("\xff", 100)}
	for _, seq := range []int{0, 3, 9, 10, 12} {
		for _, from := range ends {
			for _, to := range ends {
				want := modelScan(s, from, to, seq)
				if l, e := Scan(s, from, to, seq); e != api.OK || !slices.Equal(l, want) {
					t.Errorf("P15.2: Scan from %q to %q at %d: %s, error %d; want %s", from, to, seq, brief(l), e, brief(want))
				}
			}
		}
	}
	if l, _ := Scan(s, "k0003", "k0003\x00", 12); len(l) != 1 || l[0].Key != "k0003" {
		t.Errorf("P15.2: Scan of one key: %s", brief(l))
	}
	for _, l := range [][2]string{{"k0003", "k0003"}, {"z", "a"}, {"k0006\x00", "l"}} {
		if p, e := Scan(s, l[0], l[1], 12); e != api.OK || len(p) != 0 {
			t.Errorf("P15.2: Scan from %q to %q: %s, error %d; want none", l[0], l[1], brief(p), e)
		}
	}
}

func TestGetAndScanOutOfRange(t *testing.T) {
	bad := ground()
	bad.Files = files.State{Next: 1}
	for what, s := range map[string]State{"ground": ground(), "without its tables": bad} {
		for _, seq := range []int{-1, 13, 14, lastSeq, lastSeq + 1, math.MaxInt, math.MinInt} {
			if v, ok, e := Get(s, "a", seq); v != "" || ok || e != api.ErrRange {
				t.Errorf("P15.2: %s: Get at %d: %q, %t, error %d; want ErrRange", what, seq, v, ok, e)
			}
			if l, e := Scan(s, "", "", seq); len(l) != 0 || e != api.ErrRange {
				t.Errorf("P15.2: %s: Scan at %d: %s, error %d; want ErrRange", what, seq, brief(l), e)
			}
		}
	}
}

// badTables: stores of whose tables one is not as it should be.
func badTables() map[string]State {
	all := map[string]State{}
	change := func(what, name string, do func(b []byte) []byte) {
		s := ground()
		for _, n := range s.Files.Names {
			if n.Name == name {
				f := &s.Files.Files[n.ID-1]
				f.Data = do(f.Data)
				f.Synced = len(f.Data)
			}
		}
		all[what+", "+name] = s
	}
	for _, name := range []string{"t1", "t2"} {
		change("empty", name, func([]byte) []byte { return nil })
		change("cut off", name, func(b []byte) []byte { return b[:len(b)-1] })
		change("with a tail", name, func(b []byte) []byte { return append(b, 0) })
		change("turned at first", name, func(b []byte) []byte { b[0]++; return b })
		change("turned in between", name, func(b []byte) []byte { b[len(b)/2] ^= 16; return b })
		change("turned at last", name, func(b []byte) []byte { b[len(b)-1] ^= 128; return b })
		change("another thing", name, func([]byte) []byte { return []byte("a text that is no table, and long enough") })
		s := ground()
		gone := func(n files.Name) bool { return n.Name == name }
		s.Files.Names = slices.DeleteFunc(s.Files.Names, gone)
		all["lost, "+name] = s
	}
	return all
}

func TestGetAndScanOfTablesThatAreNotAsTheyShouldBe(t *testing.T) {
	for what, s := range badTables() {
		for _, seq := range []int{0, 3, 9, 12} {
			for _, key := range []string{"a", "b", "k0003", "none", ""} {
				if v, ok, e := Get(s, key, seq); v != "" || ok || e != api.ErrCorrupt {
					t.Errorf("P15.2: %s: Get(%q) at %d: %q, %t, error %d; want ErrCorrupt", what, key, seq, v, ok, e)
				}
			}
			for _, from := range []string{"", "b", "z"} {
				if l, e := Scan(s, from, "", seq); len(l) != 0 || e != api.ErrCorrupt {
					t.Errorf("P15.2: %s: Scan at %d: %s, error %d; want ErrCorrupt", what, seq, brief(l), e)
				}
			}
		}
	}
}
