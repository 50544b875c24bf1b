package files

import (
	"fmt"
	"math"
	"strings"
	"testing"

	"tickler/api"
)

// sample: a state with a file that both lists name, one that Names names alone, and one that Safe names alone. Its files have 8 octets.
func sample() State {
	return State{
		Cap:   20,
		Files: []File{{ID: 1, Data: []byte("abc"), Synced: 2}, {ID: 4}, {ID: 7, Data: []byte("12345"), Synced: 5}},
		Names: []Name{{"a", 4}, {"b", 7}},
		Safe:  []Name{{"b", 1}, {"c", 7}},
		Next:  9,
	}
}

// many: a state with count files, each named in both lists or in Safe alone.
func many(count int, both bool) State {
	s := State{Cap: 20, Next: count + 1}
	for i := range count {
		s.Files = append(s.Files, File{ID: i + 1})
		s.Safe = append(s.Safe, Name{fmt.Sprintf("f%03d", i), i + 1})
	}
	if both {
		s.Names = append(s.Names, s.Safe...)
	}
	return s
}

// single: a state with one empty file of that name, in Names or in Safe.
func single(name string, safe bool) State {
	s := State{Files: []File{{ID: 1}}, Next: 2}
	if safe {
		s.Safe = []Name{{name, 1}}
	} else {
		s.Names = []Name{{name, 1}}
	}
	return s
}

// P4.1: New

func TestNew(t *testing.T) {
	for _, size := range []int{0, 1, 20, 1 << 16, 1<<24 - 1, 1 << 24} {
		s, e := New(size)
		if e != api.OK || !same(s, State{Cap: size, Next: 1}) {
			t.Errorf("P4.1: New(%d): %s, error %d", size, told(s), e)
		}
		if e := Check(s); e != api.OK {
			t.Errorf("P4.1: Check of New(%d): error %d", size, e)
		}
	}
	for _, size := range []int{-1, 1<<24 + 1, 1 << 32, math.MinInt, math.MaxInt} {
		if s, e := New(size); e != api.ErrRange || !same(s, State{}) {
			t.Errorf("P4.1: New(%d): %s, error %d, want none, error %d", size, told(s), e, api.ErrRange)
		}
	}
}

// P4.1: Check

// change is a limb of what may be, and how the sample comes to keep or to break it.
type change struct {
	what string
	make func(s *State)
}

func TestStatesThatMayBe(t *testing.T) {
	for _, c := range []change{
		{"the sample", func(s *State) {}},
		{"lists that are empty", func(s *State) { *s = State{Files: []File{}, Names: []Name{}, Safe: []Name{}, Next: 1} }},
		{"lists that are nil", func(s *State) { *s = State{Next: 1} }},
		{"no files, and numbers that were used", func(s *State) { *s = State{Next: 77} }},
		{"as many octets as there is room", func(s *State) { s.Cap = 8 }},
		{"the greatest Cap", func(s *State) { s.Cap = 1 << 24 }},
		{"the least Next", func(s *State) { s.Next = 8 }},
		{"the greatest Next", func(s *State) { s.Next = 1<<31 - 1 }},
		{"the greatest number", func(s *State) {
			s.Next, s.Files[2].ID, s.Names[1].ID, s.Safe[1].ID = 1<<31-1, 1<<31-2, 1<<31-2, 1<<31-2
		}},
		{"nothing synced", func(s *State) { s.Files[0].Synced = 0 }},
		{"all synced", func(s *State) { s.Files[0].Synced = 3 }},
		{"256 files in both lists", func(s *State) { *s = many(256, true) }},
		{"256 files in Safe", func(s *State) { *s = many(256, false) }},
		{"Names crosswise", func(s *State) { s.Names[0].ID, s.Names[1].ID = 7, 4 }},
		{"both lists alike", func(s *State) { s.Names = []Name{{"a", 4}, {"b", 7}, {"c", 1}}; s.Safe = s.Names }},
		{"Safe alone", func(s *State) { s.Names = nil; s.Safe = []Name{{"a", 4}, {"b", 7}, {"c", 1}} }},
		{"Names alone", func(s *State) { s.Safe = nil; s.Names = []Name{{"a", 4}, {"b", 7}, {"c", 1}} }},
		{"a name that begins another", func(s *State) { s.Names[1].Name = "aa" }},
		{"names ordered by octets", func(s *State) { s.Names[0].Name, s.Names[1].Name = "Z", "a" }},
	} {
		s := sample()
		c.make(&s)
		if e := Check(s); e != api.OK {
			t.Errorf("P4.1: %s: Check: error %d", c.what, e)
		}
		if !allowed(s) {
			t.Errorf("P4.1: %s: the test's own words do not allow it", c.what)
		}
	}
}

// breaks: for each limb of what may be, the ways to break it alone.
func breaks() []change {
	return []change{
		{"the zero state", func(s *State) { *s = State{} }},
		{"Cap below 0", func(s *State) { *s = State{Cap: -1, Next: 1} }},
		{"Cap far below 0", func(s *State) { *s = State{Cap: math.MinInt, Next: 1} }},
		{"Cap above 2^24", func(s *State) { s.Cap = 1<<24 + 1 }},
		{"Cap far above", func(s *State) { s.Cap = math.MaxInt }},
		{"an octet too many", func(s *State) { s.Cap = 7 }},
		{"octets in no room", func(s *State) { s.Cap = 0 }},
		{"257 files in both lists", func(s *State) { *s = many(257, true) }},
		{"257 files in Safe", func(s *State) { *s = many(257, false) }},
		{"Next 0", func(s *State) { s.Next = 0 }},
		{"Next below 0", func(s *State) { *s = State{Next: -1} }},
		{"Next above 2^31 - 1", func(s *State) { s.Next = 1 << 31 }},
		{"Next far above", func(s *State) { s.Next = math.MaxInt }},
		{"a number 0", func(s *State) { s.Files[0].ID, s.Safe[0].ID = 0, 0 }},
		{"a number below 0", func(s *State) { s.Files[0].ID, s.Safe[0].ID = -1, -1 }},
		{"a number that is Next", func(s *State) { s.Next = 7 }},
		{"a number above Next", func(s *State) { s.Next = 5 }},
		{"one number twice", func(s *State) { s.Files[1].ID, s.Names[0].ID = 1, 1 }},
		{"falling numbers", func(s *State) { s.Files[0], s.Files[1] = s.Files[1], s.Files[0] }},
		{"falling numbers at the end", func(s *State) { s.Files[1], s.Files[2] = s.Files[2], s.Files[1] }},
		{"synced below 0", func(s *State) { s.Files[0].Synced = -1 }},
		{"synced below 0, of an empty file", func(s *State) { s.Files[1].Synced = math.MinInt }},
		{"more synced than there is", func(s *State) { s.Files[0].Synced = 4 }},
		{"synced, of an empty file", func(s *State) { s.Files[1].Synced = 1 }},
		{"far more synced", func(s *State) { s.Files[2].Synced = math.MaxInt }},
		{"a falling name", func(s *State) { s.Names[0], s.Names[1] = s.Names[1], s.Names[0] }},
		{"a falling safe name", func(s *State) { s.Safe[0], s.Safe[1] = s.Safe[1], s.Safe[0] }},
		{"a name twice", func(s *State) { s.Names[1].Name = "a" }},
		{"a safe name twice", func(s *State) { s.Safe[1].Name = "b" }},
		{"names that fall by octets", func(s *State) { s.Names[0].Name, s.Names[1].Name = "a", "B" }},
		{"two names of one file", func(s *State) { s.Names = append(s.Names, Name{"z", 4}) }},
		{"two names of one file, side by side", func(s *State) { s.Names = []Name{{"a", 4}, {"b", 4}} }},
		{"two safe names of one file", func(s *State) { s.Safe = append(s.Safe, Name{"z", 1}) }},
		{"a name of no file", func(s *State) { s.Names = append(s.Names, Name{"z", 5}) }},
		{"a name of no file, number 0", func(s *State) { s.Names = append(s.Names, Name{"z", 0}) }},
		{"a name of no file, Next", func(s *State) { s.Names = append(s.Names, Name{"z", 9}) }},
		{"a safe name of no file", func(s *State) { s.Safe = append(s.Safe, Name{"z", 5}) }},
		{"a name instead of a file's", func(s *State) { s.Names[0].ID = 5 }},
		{"a safe name instead of a file's", func(s *State) { s.Safe[0].ID = 5 }},
		{"names without files", func(s *State) { s.Files = nil }},
		{"a file without a name, the first", func(s *State) { s.Safe = s.Safe[1:] }},
		{"a file without a name, the second", func(s *State) { s.Names = s.Names[1:] }},
		{"files without names", func(s *State) { s.Names, s.Safe = nil, nil }},
	}
}

func TestStatesThatMayNotBe(t *testing.T) {
	for _, c := range breaks() {
		s := sample()
		c.make(&s)
		if e := Check(s); e != api.ErrState {
			t.Errorf("P4.1: %s: Check: error %d, want %d", c.what, e, api.ErrState)
		}
		if allowed(s) {
			t.Errorf("P4.1: %s: the test's own words allow it", c.what)
		}
	}
}

// names that may be, and names that may not.
func goodNames() []string {
	return []string{"!", "~", "a", "CURRENT", "0", "a/b", "..", strings.Repeat("!", 32), strings.Repeat("~", 32), "!\"#$%&'()*+,-./09:;<=>?@AZ[\\]^_`"}
}

func badNames() []string {
	l := []string{"", " ", strings.Repeat("a", 33), strings.Repeat("~", 33), strings.Repeat("a", 5000), "\u00e4", "a\n", "\x00"}
	for _, x := range []byte{0, 1, 9, 10, 31, 32, 127, 128, 160, 195, 254, 255} {
		l = append(l, string([]byte{x}), string([]byte{x, 'a'}), string([]byte{'a', x, 'b'}), string([]byte{'a', x}), strings.Repeat("a", 31)+string([]byte{x}))
	}
	return l
}

func TestNamesThatMayBe(t *testing.T) {
	for _, name := range goodNames() {
		for _, safe := range []bool{false, true} {
			if e := Check(single(name, safe)); e != api.OK {
				t.Errorf("P4.1: the name %q, safe %t: error %d", name, safe, e)
			}
		}
	}
	for _, name := range badNames() {
		for _, safe := range []bool{false, true} {
			if e := Check(single(name, safe)); e != api.ErrState {
				t.Errorf("P4.1: the name %q, safe %t: error %d, want %d", name, safe, e, api.ErrState)
			}
		}
	}
	for x := range 256 {
		want := api.ErrState
		if x >= 33 && x <= 126 {
			want = api.OK
		}
		if e := Check(single(string([]byte{'a', byte(x)}), false)); e != want {
			t.Errorf("P4.1: a name with the octet %d: error %d, want %d", x, e, want)
		}
	}
}

func TestAllCallsRefuseAStateThatMayNotBe(t *testing.T) {
	for _, c := range breaks() {
		s := sample()
		c.make(&s)
		for what := -1; what <= 8; what++ {
			// Acts that would be refused too: the state goes ahead.
			for _, a := range []api.Act{{What: what, Name: "a", To: "b"}, {What: what, Name: "none"}, {What: what}} {
				if n, e := Do(s, a); e != api.ErrState || !same(n, State{}) {
					t.Errorf("P4.1: %s: Do(%+v): %s, error %d", c.what, a, told(n), e)
				}
				if n, k, e := Run(s, []api.Act{a}); e != api.ErrState || k != 0 || !same(n, State{}) {
					t.Errorf("P4.2: %s: Run(%+v): %s, %d, error %d", c.what, a, told(n), k, e)
				}
			}
		}
		if n, k, e := Run(s, nil); e != api.ErrState || k != 0 || !same(n, State{}) {
			t.Errorf("P4.2: %s: Run of nothing: %s, %d, error %d", c.what, told(n), k, e)
		}
		for _, name := range []string{"b", "none", ""} {
			if b, e := Read(s, name); e != api.ErrState || len(b) != 0 {
				t.Errorf("P4.2: %s: Read(%q): %q, error %d", c.what, name, b, e)
			}
		}
		if l, e := List(s); e != api.ErrState || len(l) != 0 {
			t.Errorf("P4.2: %s: List: %q, error %d", c.what, l, e)
		}
		if n, e := Crash(s, []int{1}); e != api.ErrState || !same(n, State{}) {
			t.Errorf("P4.3: %s: Crash: %s, error %d", c.what, told(n), e)
		}
	}
}
