package files

import (
	"bytes"
	"fmt"
	"math"
	"math/rand"
	"slices"
	"strings"
	"testing"

	"tickler/api"
)

// done: the state behind the acts, all of which must be taken.
func done(t *testing.T, s State, l ...api.Act) State {
	t.Helper()
	for _, a := range l {
		next, e := Do(s, a)
		if e != api.OK {
			t.Fatalf("P4.1: Do(%s, %+v): error %d", told(s), a, e)
		}
		s = next
	}
	return s
}

// refused fails unless the act is, with that error and nothing beside it.
func refused(t *testing.T, s State, a api.Act, want api.Errno) {
	t.Helper()
	if n, e := Do(s, a); e != want || !same(n, State{}) {
		t.Errorf("P4.1: Do(%s, What %d, Name %q, To %q, %d octets): %s, error %d; want none, error %d", told(s), a.What, a.Name, a.To, len(a.Data), told(n), e, want)
	}
}

// becomes fails unless the act makes want out of s.
func becomes(t *testing.T, s State, a api.Act, want State) {
	t.Helper()
	if n, e := Do(s, a); e != api.OK || !same(n, want) {
		t.Errorf("P4.1: Do(%s, %+v): %s, error %d; want %s", told(s), a, told(n), e, told(want))
	}
}

// changed: the sample, with something else in it.
func changed(f func(s *State)) State {
	s := sample()
	f(&s)
	return s
}

// P4.1: kinds

func TestKindsThatAreNone(t *testing.T) {
	for _, what := range []int{0, -1, 7, 8, 256 + 1, 1<<32 + 1, math.MinInt, math.MaxInt} {
		refused(t, sample(), api.Act{What: what, Name: "a", To: "b"}, api.ErrKind)
		refused(t, sample(), api.Act{What: what, Name: "none", To: ""}, api.ErrKind)
		refused(t, sample(), api.Act{What: what, Name: "", Data: make([]byte, 100)}, api.ErrKind)
	}
}

// P4.1: create

func TestCreate(t *testing.T) {
	becomes(t, State{Next: 1}, api.Act{What: 1, Name: "x"}, State{Files: []File{{ID: 1}}, Names: []Name{{"x", 1}}, Next: 2})
	for i, name := range []string{"A", "aa", "z"} {
		becomes(t, sample(), api.Act{What: 1, Name: name, To: "other", Data: []byte("none of it")}, changed(func(s *State) {
			s.Files = append(s.Files, File{ID: 9})
			s.Names = slices.Insert(s.Names, i, Name{name, 9})
			s.Next = 10
		}))
	}
	// A name that Safe has is not there: it may be created anew.
	becomes(t, sample(), api.Act{What: 1, Name: "c"}, changed(func(s *State) {
		s.Files = append(s.Files, File{ID: 9})
		s.Names = append(s.Names, Name{"c", 9})
		s.Next = 10
	}))
	for _, name := range goodNames() {
		s := done(t, State{Next: 5}, api.Act{What: 1, Name: name})
		if !same(s, State{Files: []File{{ID: 5}}, Names: []Name{{name, 5}}, Next: 6}) {
			t.Errorf("P4.1: create %q: %s", name, told(s))
		}
	}
}

func TestCreateErrors(t *testing.T) {
	last := State{Next: 1<<31 - 1}
	for _, name := range badNames() {
		refused(t, sample(), api.Act{What: 1, Name: name}, api.ErrName)
		refused(t, many(256, true), api.Act{What: 1, Name: name}, api.ErrName)
		refused(t, last, api.Act{What: 1, Name: name}, api.ErrName)
	}
	refused(t, sample(), api.Act{What: 1, Name: "a"}, api.ErrTwice)
	refused(t, sample(), api.Act{What: 1, Name: "b"}, api.ErrTwice)
	refused(t, many(256, true), api.Act{What: 1, Name: "f000"}, api.ErrTwice)
	refused(t, many(256, true), api.Act{What: 1, Name: "f255"}, api.ErrTwice)
	refused(t, changed(func(s *State) { s.Next = 1<<31 - 1 }), api.Act{What: 1, Name: "a"}, api.ErrTwice)
	refused(t, many(256, true), api.Act{What: 1, Name: "x"}, api.ErrFull)
	// Files that only Safe names count, though their names are not there.
	refused(t, many(256, false), api.Act{What: 1, Name: "x"}, api.ErrFull)
	refused(t, many(256, false), api.Act{What: 1, Name: "f000"}, api.ErrFull)
	refused(t, last, api.Act{What: 1, Name: "x"}, api.ErrFull)
	refused(t, changed(func(s *State) { s.Next = 1<<31 - 1 }), api.Act{What: 1, Name: "c"}, api.ErrFull)
}

func TestCreateUpToTheLast(t *testing.T) {
	s := done(t, many(255, true), api.Act{What: 1, Name: "last"})
	if len(s.Files) != 256 || Check(s) != api.OK {
		t.Errorf("P4.1: the 256th file: %s", told(s))
	}
	refused(t, s, api.Act{What: 1, Name: "more"}, api.ErrFull)
	s = done(t, State{Next: 1<<31 - 2}, api.Act{What: 1, Name: "last"})
	if !same(s, State{Files: []File{{ID: 1<<31 - 2}}, Names: []Name{{"last", 1<<31 - 2}}, Next: 1<<31 - 1}) {
		t.Errorf("P4.1: the last number: %s", told(s))
	}
	refused(t, s, api.Act{What: 1, Name: "more"}, api.ErrFull)
	// Numbers do not come back, and files that go make room.
	s = done(t, many(256, false), api.Act{What: 6}, api.Act{What: 1, Name: "x"})
	if !same(s, State{Cap: 20, Files: []File{{ID: 257}}, Names: []Name{{"x", 257}}, Next: 258}) {
		t.Errorf("P4.1: a file in the room of others: %s", told(s))
	}
}

// P4.1: append

func TestAppend(t *testing.T) {
	becomes(t, sample(), api.Act{What: 2, Name: "a", To: "b", Data: []byte("xyz")}, changed(func(s *State) { s.Files[1].Data = []byte("xyz") }))
	becomes(t, sample(), api.Act{What: 2, Name: "b", Data: []byte{0, 255}}, changed(func(s *State) { s.Files[2].Data = []byte("12345\x00\xff") }))
	becomes(t, sample(), api.Act{What: 2, Name: "b"}, sample())
	becomes(t, sample(), api.Act{What: 2, Name: "b", Data: []byte{}}, sample())
	becomes(t, sample(), api.Act{What: 2, Name: "a", Data: make([]byte, 12)}, changed(func(s *State) { s.Files[1].Data = make([]byte, 12) }))
	full := changed(func(s *State) { s.Cap = 8 })
	becomes(t, full, api.Act{What: 2, Name: "a"}, full)
}

func TestAppendErrors(t *testing.T) {
	refused(t, sample(), api.Act{What: 2, Name: "a", Data: make([]byte, 13)}, api.ErrFull)
	refused(t, sample(), api.Act{What: 2, Name: "a", Data: make([]byte, 1000)}, api.ErrFull)
	refused(t, changed(func(s *State) { s.Cap = 8 }), api.Act{What: 2, Name: "b", Data: []byte("x")}, api.ErrFull)
	for _, name := range append(badNames(), "c", "B", "aa", "none") {
		refused(t, sample(), api.Act{What: 2, Name: name, Data: []byte("x")}, api.ErrNone)
		refused(t, sample(), api.Act{What: 2, Name: name, Data: make([]byte, 13)}, api.ErrNone)
	}
	// Octets of a file that only Safe names take room too, until the names are synced.
	s := done(t, sample(), api.Act{What: 5, Name: "b"})
	refused(t, s, api.Act{What: 2, Name: "a", Data: make([]byte, 13)}, api.ErrFull)
	s = done(t, s, api.Act{What: 6}, api.Act{What: 2, Name: "a", Data: make([]byte, 20)})
	refused(t, s, api.Act{What: 2, Name: "a", Data: make([]byte, 1)}, api.ErrFull)
}

func TestAppendUpToTheGreatestCap(t *testing.T) {
	s, _ := New(1 << 24)
	s = done(t, s, api.Act{What: 1, Name: "a"}, api.Act{What: 1, Name: "b"}, api.Act{What: 2, Name: "a", Data: make([]byte, 1<<24-1)})
	refused(t, s, api.Act{What: 2, Name: "b", Data: make([]byte, 2)}, api.ErrFull)
	s = done(t, s, api.Act{What: 2, Name: "b", Data: make([]byte, 1)})
	refused(t, s, api.Act{What: 2, Name: "a", Data: make([]byte, 1)}, api.ErrFull)
	if len(s.Files[0].Data) != 1<<24-1 || len(s.Files[1].Data) != 1 || Check(s) != api.OK {
		t.Errorf("P4.1: a full disk has files of %d and %d octets, error %d", len(s.Files[0].Data), len(s.Files[1].Data), Check(s))
	}
}

// P4.1: sync

func TestSync(t *testing.T) {
	s := changed(func(s *State) { s.Files[2].Synced = 2 })
	becomes(t, s, api.Act{What: 3, Name: "b", To: "a", Data: []byte("none of it")}, sample())
	becomes(t, sample(), api.Act{What: 3, Name: "b"}, sample())
	becomes(t, sample(), api.Act{What: 3, Name: "a"}, sample())
	for _, name := range append(badNames(), "c", "none") {
		refused(t, sample(), api.Act{What: 3, Name: name}, api.ErrNone)
	}
}

// P4.1: rename

func TestRename(t *testing.T) {
	for _, c := range []struct {
		name, to string
		want     []Name
	}{
		{"a", "z", []Name{{"b", 7}, {"z", 4}}},
		{"a", "aa", []Name{{"aa", 4}, {"b", 7}}},
		{"a", "c", []Name{{"b", 7}, {"c", 4}}},
		{"b", "A", []Name{{"A", 7}, {"a", 4}}},
		{"a", "b", []Name{{"b", 4}}},
		{"a", "a", []Name{{"a", 4}, {"b", 7}}},
		{"b", "b", []Name{{"a", 4}, {"b", 7}}},
	} {
		becomes(t, sample(), api.Act{What: 4, Name: c.name, To: c.to, Data: []byte("none of it")}, changed(func(s *State) { s.Names = c.want }))
	}
	// Over a file that nobody else names: it is gone.
	becomes(t, sample(), api.Act{What: 4, Name: "b", To: "a"}, changed(func(s *State) {
		s.Names = []Name{{"a", 7}}
		s.Files = slices.Delete(s.Files, 1, 2)
	}))
	for _, to := range goodNames() {
		becomes(t, single("x", false), api.Act{What: 4, Name: "x", To: to}, single(to, false))
	}
	full := many(256, true)
	becomes(t, full, api.Act{What: 4, Name: "f000", To: "z"}, State{Cap: 20, Files: full.Files, Names: append(slices.Clone(full.Names[1:]), Name{"z", 1}), Safe: full.Safe, Next: 257})
}

func TestRenameErrors(t *testing.T) {
	for _, name := range append(badNames(), "c", "none") {
		for _, to := range []string{"a", "z", "", "a b", name, strings.Repeat("z", 33)} {
			refused(t, sample(), api.Act{What: 4, Name: name, To: to}, api.ErrNone)
		}
	}
	for _, to := range badNames() {
		refused(t, sample(), api.Act{What: 4, Name: "a", To: to}, api.ErrName)
		refused(t, sample(), api.Act{What: 4, Name: "b", To: to}, api.ErrName)
	}
}

// P4.1: remove

func TestRemove(t *testing.T) {
	becomes(t, sample(), api.Act{What: 5, Name: "b", To: "a"}, changed(func(s *State) { s.Names = s.Names[:1] }))
	becomes(t, sample(), api.Act{What: 5, Name: "a"}, changed(func(s *State) {
		s.Names = s.Names[1:]
		s.Files = slices.Delete(s.Files, 1, 2)
	}))
	for _, name := range append(badNames(), "c", "none") {
		refused(t, sample(), api.Act{What: 5, Name: name}, api.ErrNone)
	}
	refused(t, done(t, sample(), api.Act{What: 5, Name: "a"}), api.Act{What: 5, Name: "a"}, api.ErrNone)
}

// P4.1: sync the names

func TestSyncNames(t *testing.T) {
	becomes(t, sample(), api.Act{What: 6, Name: "a b", To: "", Data: make([]byte, 99)}, changed(func(s *State) {
		s.Safe = s.Names
		s.Files = s.Files[1:]
	}))
	becomes(t, State{Next: 3}, api.Act{What: 6}, State{Next: 3})
	becomes(t, many(256, false), api.Act{What: 6}, State{Cap: 20, Next: 257})
	becomes(t, many(256, true), api.Act{What: 6}, many(256, true))
}

// P4.1: files that nobody names any more

func TestFilesThatNobodyNamesAreGone(t *testing.T) {
	a, b := api.Act{What: 1, Name: "a"}, api.Act{What: 1, Name: "b"}
	for _, c := range []struct {
		what string
		l    []api.Act
		want []int
	}{
		{"a name that was never safe", []api.Act{a, {What: 5, Name: "a"}}, nil},
		{"a safe name", []api.Act{a, {What: 6}, {What: 5, Name: "a"}}, []int{1}},
		{"a safe name, synced away", []api.Act{a, {What: 6}, {What: 5, Name: "a"}, {What: 6}}, nil},
		{"a name taken by another file", []api.Act{a, b, {What: 4, Name: "a", To: "b"}}, []int{1}},
		{"a safe name taken by another file", []api.Act{b, {What: 6}, a, {What: 4, Name: "a", To: "b"}}, []int{1, 2}},
		{"that, synced", []api.Act{b, {What: 6}, a, {What: 4, Name: "a", To: "b"}, {What: 6}}, []int{2}},
		{"a renamed file", []api.Act{a, {What: 6}, {What: 4, Name: "a", To: "c"}, {What: 6}}, []int{1}},
		{"a renamed file, removed", []api.Act{a, {What: 6}, {What: 4, Name: "a", To: "c"}, {What: 5, Name: "c"}}, []int{1}},
		{"a name created anew", []api.Act{a, {What: 5, Name: "a"}, a}, []int{2}},
		{"a safe name created anew", []api.Act{a, {What: 6}, {What: 5, Name: "a"}, a}, []int{1, 2}},
	} {
		s, _ := New(9)
		s = done(t, s, c.l...)
		var got []int
		for _, f := range s.Files {
			got = append(got, f.ID)
		}
		if !slices.Equal(got, c.want) {
			t.Errorf("P4.1: %s: there are the files %v, want %v", c.what, got, c.want)
		}
	}
}

// P4.2

func TestRun(t *testing.T) {
	l := []api.Act{{What: 1, Name: "x"}, {What: 2, Name: "x", Data: []byte("12")}, {What: 3, Name: "x"}, {What: 4, Name: "x", To: "y"}, {What: 5, Name: "a"}, {What: 6}}
	want := State{
		Cap:   20,
		Files: []File{{ID: 7, Data: []byte("12345"), Synced: 5}, {ID: 9, Data: []byte("12"), Synced: 2}},
		Names: []Name{{"b", 7}, {"y", 9}},
		Safe:  []Name{{"b", 7}, {"y", 9}},
		Next:  10,
	}
	if s, n, e := Run(sample(), l); !same(s, want) || n != 6 || e != api.OK {
		t.Errorf("P4.2: Run: %s, %d, error %d; want %s", told(s), n, e, told(want))
	}
	for _, l := range [][]api.Act{nil, {}} {
		if s, n, e := Run(sample(), l); !same(s, sample()) || n != 0 || e != api.OK {
			t.Errorf("P4.2: Run of nothing: %s, %d, error %d", told(s), n, e)
		}
	}
	for k := range len(l) + 1 {
		ahead := done(t, sample(), l[:k]...)
		for _, c := range []struct {
			a    api.Act
			want api.Errno
		}{
			{api.Act{What: 7}, api.ErrKind},
			{api.Act{What: 1, Name: ""}, api.ErrName},
			{api.Act{What: 1, Name: "b"}, api.ErrTwice},
			{api.Act{What: 2, Name: "b", Data: make([]byte, 16)}, api.ErrFull},
			{api.Act{What: 3, Name: "none"}, api.ErrNone},
			{api.Act{What: 4, Name: "b", To: " "}, api.ErrName},
			{api.Act{What: 5, Name: "c"}, api.ErrNone},
		} {
			torn := slices.Concat(l[:k], []api.Act{c.a}, l[k:], []api.Act{{}})
			if s, n, e := Run(sample(), torn); !same(s, ahead) || n != k || e != c.want {
				t.Errorf("P4.2: Run, refused at %d (%+v): %s, %d, error %d; want %s, error %d", k, c.a, told(s), n, e, told(ahead), c.want)
			}
		}
	}
}

func TestRead(t *testing.T) {
	for name, want := range map[string]string{"a": "", "b": "12345"} {
		if b, e := Read(sample(), name); string(b) != want || e != api.OK {
			t.Errorf("P4.2: Read(%s): %q, error %d; want %q", name, b, e, want)
		}
	}
	for _, name := range append(badNames(), "c", "A", "aa", "none") {
		if b, e := Read(sample(), name); len(b) != 0 || e != api.ErrNone {
			t.Errorf("P4.2: Read(%q): %q, error %d, want none, error %d", name, b, e, api.ErrNone)
		}
	}
	s := done(t, sample(), api.Act{What: 4, Name: "b", To: "z"}, api.Act{What: 2, Name: "z", Data: []byte("67")})
	if b, e := Read(s, "z"); string(b) != "1234567" || e != api.OK {
		t.Errorf("P4.2: Read of a renamed file: %q, error %d", b, e)
	}
	if b, e := Read(s, "b"); len(b) != 0 || e != api.ErrNone {
		t.Errorf("P4.2: Read of a name that is gone: %q, error %d", b, e)
	}
}

func TestList(t *testing.T) {
	for _, c := range []struct {
		s    State
		want []string
	}{
		{sample(), []string{"a", "b"}},
		{State{Next: 1}, nil},
		{many(3, true), []string{"f000", "f001", "f002"}},
		{many(3, false), nil},
		{done(t, sample(), api.Act{What: 1, Name: "aa"}, api.Act{What: 1, Name: "Z"}, api.Act{What: 5, Name: "b"}), []string{"Z", "a", "aa"}},
	} {
		if l, e := List(c.s); !slices.Equal(l, c.want) || e != api.OK {
			t.Errorf("P4.2: List(%s): %q, error %d; want %q", told(c.s), l, e, c.want)
		}
	}
}

// P4.4

func TestWhatWasAppendedIsReadInOrder(t *testing.T) {
	r := rand.New(rand.NewSource(44))
	s, _ := New(1 << 20)
	want := map[string]string{}
	for i := range 200 {
		name := fmt.Sprint("f", r.Intn(9))
		if _, there := want[name]; !there {
			s = done(t, s, api.Act{What: 1, Name: name})
		}
		data := fmt.Appendf(nil, "%d.", i*r.Intn(1000))
		s = done(t, s, api.Act{What: 2, Name: name, Data: data})
		want[name] += string(data)
		if i%7 == 0 {
			s = done(t, s, api.Act{What: 3, Name: name}, api.Act{What: 6})
		}
		if to := fmt.Sprint("f", r.Intn(9)); i%11 == 0 && to != name {
			s = done(t, s, api.Act{What: 4, Name: name, To: to})
			want[to] = want[name]
			delete(want, name)
		}
		for name, text := range want {
			if b, e := Read(s, name); !bytes.Equal(b, []byte(text)) || e != api.OK {
				t.Fatalf("P4.4: Read(%s): %q, error %d; want %q", name, b, e, text)
			}
		}
		if l, e := List(s); len(l) != len(want) || e != api.OK {
			t.Fatalf("P4.4: List: %q, error %d; want %d names", l, e, len(want))
		}
	}
}
