package files

import (
	"bytes"
	"fmt"
	"maps"
	"math/rand"
	"regexp"
	"slices"
	"strings"
	"testing"

	"tickler/api"
)

// node is a file of the model; a disk holds the ones that its maps point at, so that a file nobody names is gone by itself.
type node struct {
	id     int
	data   string
	synced int
}

// disk is the model that the package is held against: names point at files, and nothing is kept in order.
type disk struct {
	size, next int
	live, safe map[string]*node
}

func newDisk(size int) *disk {
	return &disk{size: size, next: 1, live: map[string]*node{}, safe: map[string]*node{}}
}

// nodes: the files that either map points at, by their numbers.
func (d *disk) nodes() []*node {
	all := map[*node]bool{}
	for _, n := range d.live {
		all[n] = true
	}
	for _, n := range d.safe {
		all[n] = true
	}
	return slices.SortedFunc(maps.Keys(all), func(a, b *node) int { return a.id - b.id })
}

// state: the disk, written down as the chapter says.
func (d *disk) state() State {
	s := State{Cap: d.size, Next: d.next, Names: listed(d.live), Safe: listed(d.safe)}
	for _, n := range d.nodes() {
		s.Files = append(s.Files, File{ID: n.id, Data: []byte(n.data), Synced: n.synced})
	}
	return s
}

func listed(m map[string]*node) []Name {
	var l []Name
	for _, name := range slices.Sorted(maps.Keys(m)) {
		l = append(l, Name{Name: name, ID: m[name].id})
	}
	return l
}

var seen = regexp.MustCompile(`^[!-~]{1,32}\z`)

// do: the error that the act owes; behind OK the disk is as it should be.
func (d *disk) do(a api.Act) api.Errno {
	n := d.live[a.Name]
	if n == nil && a.What >= 2 && a.What <= 5 {
		return api.ErrNone
	}
	switch a.What {
	case 1:
		if !seen.MatchString(a.Name) {
			return api.ErrName
		}
		if n != nil {
			return api.ErrTwice
		}
		if len(d.nodes()) >= 256 || d.next >= 2147483647 {
			return api.ErrFull
		}
		d.live[a.Name] = &node{id: d.next}
		d.next++
	case 2:
		total := len(a.Data)
		for _, n := range d.nodes() {
			total += len(n.data)
		}
		if total > d.size {
			return api.ErrFull
		}
		n.data += string(a.Data)
	case 3:
		n.synced = len(n.data)
	case 4:
		if !seen.MatchString(a.To) {
			return api.ErrName
		}
		delete(d.live, a.Name)
		d.live[a.To] = n
	case 5:
		delete(d.live, a.Name)
	case 6:
		d.safe = maps.Clone(d.live)
	default:
		return api.ErrKind
	}
	return api.OK
}

// crash: what is left.
func (d *disk) crash(keep []int) {
	for i, n := range d.nodes() {
		left := n.data[:n.synced]
		for k := n.synced; k < len(n.data) && i < len(keep) && k-n.synced < keep[i]; k++ {
			left += n.data[k : k+1]
		}
		n.data, n.synced = left, len(left)
	}
	d.live = maps.Clone(d.safe)
}

// allowed tells whether the state may be, limb by limb, in words as plain as the chapter's.
func allowed(s State) bool {
	if s.Cap < 0 || s.Cap > 16777216 || len(s.Files) > 256 || s.Next < 1 || s.Next > 2147483647 {
		return false
	}
	total := 0
	for i, f := range s.Files {
		total += len(f.Data)
		if f.ID < 1 || f.ID >= s.Next || i > 0 && s.Files[i-1].ID >= f.ID || f.Synced < 0 || len(f.Data) < f.Synced {
			return false
		}
		is := func(n Name) bool { return n.ID == f.ID }
		if !slices.ContainsFunc(s.Names, is) && !slices.ContainsFunc(s.Safe, is) {
			return false
		}
	}
	for _, l := range [][]Name{s.Names, s.Safe} {
		for i, n := range l {
			if !seen.MatchString(n.Name) || i > 0 && l[i-1].Name >= n.Name {
				return false
			}
			if slices.ContainsFunc(l[:i], func(m Name) bool { return m.ID == n.ID }) {
				return false
			}
			if !slices.ContainsFunc(s.Files, func(f File) bool { return f.ID == n.ID }) {
				return false
			}
		}
	}
	return total <= s.Cap
}

// same tells whether two states are one, with nil and empty lists as one.
func same(a, b State) bool {
	return a.Cap == b.Cap && a.Next == b.Next && slices.Equal(a.Names, b.Names) && slices.Equal(a.Safe, b.Safe) &&
		slices.EqualFunc(a.Files, b.Files, func(f, g File) bool {
			return f.ID == g.ID && f.Synced == g.Synced && bytes.Equal(f.Data, g.Data)
		})
}

// told writes a state for a person.
func told(s State) string {
	var b strings.Builder
	fmt.Fprintf(&b, "{Cap %d, Next %d, Names %v, Safe %v, Files", s.Cap, s.Next, s.Names, s.Safe)
	for _, f := range s.Files {
		fmt.Fprintf(&b, " %d:%q/%d", f.ID, f.Data, f.Synced)
	}
	return b.String() + "}"
}

// anyAct: an act out of few names and short texts, so that acts meet each other; now and then one that may not be.
func anyAct(r *rand.Rand) api.Act {
	names := []string{"a", "b", "c", "d", "b!", "~", "a", "b", "c", "", "a b", strings.Repeat("n", 33), strings.Repeat("n", 32)}
	a := api.Act{What: r.Intn(6) + 1, Name: names[r.Intn(len(names))], To: names[r.Intn(len(names))]}
	if r.Intn(3) == 0 {
		a.What = 2
	}
	if r.Intn(40) == 0 {
		a.What = r.Intn(20) - 8
	}
	if r.Intn(8) > 0 {
		a.Data = []byte("abcdefghijklmnopqrstuvwxyz"[r.Intn(20):][:r.Intn(6)])
	}
	return a
}

// anyKeep: a list of keeps, some of them out of all range.
func anyKeep(r *rand.Rand) []int {
	keep := make([]int, r.Intn(6))
	for i := range keep {
		keep[i] = r.Intn(9) - 2
		if r.Intn(10) == 0 {
			keep[i] = int(r.Uint64())
		}
	}
	return keep
}

// grown: a state that count acts make, refused ones among them, and some crashes.
func grown(r *rand.Rand, count int) State {
	d := newDisk(r.Intn(60))
	for range count {
		d.do(anyAct(r))
		if r.Intn(25) == 0 {
			d.crash(anyKeep(r))
		}
	}
	return d.state()
}

// P4.1, P4.3, P4.6: any acts and crashes, held against the model.

func TestActsAndCrashesAreTheModels(t *testing.T) {
	r := rand.New(rand.NewSource(4))
	for range 300 {
		size := r.Intn(80)
		d := newDisk(size)
		s, e := New(size)
		if e != api.OK {
			t.Fatalf("P4.1: New(%d): error %d", size, e)
		}
		for range 100 {
			a := anyAct(r)
			was, want := s, d.do(a)
			next, e := Do(s, a)
			if e != want || e != api.OK && !same(next, State{}) {
				t.Fatalf("P4.1: Do(%s, %+v): %s, error %d; want error %d", told(was), a, told(next), e, want)
			}
			if e == api.OK {
				s = next
			}
			if r.Intn(12) == 0 {
				keep := anyKeep(r)
				d.crash(keep)
				if s, e = Crash(s, keep); e != api.OK {
					t.Fatalf("P4.3: Crash(%s, %v): error %d", told(was), keep, e)
				}
			}
			if !same(s, d.state()) {
				t.Fatalf("P4.1, P4.3: %s, then %+v: %s, want %s", told(was), a, told(s), told(d.state()))
			}
			if Check(s) != api.OK || !allowed(s) {
				t.Fatalf("P4.6: behind %+v: %s may not be", a, told(s))
			}
		}
	}
}

// P4.2

func TestRunsAreTheModels(t *testing.T) {
	r := rand.New(rand.NewSource(42))
	refusals := 0
	for range 2000 {
		s := grown(r, r.Intn(40))
		l := make([]api.Act, r.Intn(8))
		for i := range l {
			l[i] = anyAct(r)
		}
		want, count, err := s, 0, api.OK
		for _, a := range l {
			next, e := Do(want, a)
			if e != api.OK {
				err = e
				break
			}
			want, count = next, count+1
		}
		if got, n, e := Run(s, l); !same(got, want) || n != count || e != err {
			t.Fatalf("P4.2: Run(%s, %+v): %s, %d, error %d; want %s, %d, error %d", told(s), l, told(got), n, e, told(want), count, err)
		}
		if err != api.OK {
			refusals++
		}
	}
	if refusals < 200 || refusals > 1800 {
		t.Errorf("P4.2: %d of 2000 runs are refused: too few of one kind to tell", refusals)
	}
}

// P1 of DOC.md: whatever the state and the act, the calls answer, and Check tells what the chapter does.

func FuzzAnyStateAndAct(f *testing.F) {
	for i := range int64(200) {
		f.Add(i, uint64(i), int(i%9)-1, "a", "b", []byte("data"), int(i))
	}
	f.Add(int64(1), uint64(0), 2, "a", "", []byte(nil), -1)
	f.Fuzz(func(t *testing.T, seed int64, faults uint64, what int, name, to string, data []byte, keep int) {
		r := rand.New(rand.NewSource(seed))
		s := broken(grown(r, r.Intn(50)), faults, r)
		want := api.OK
		if !allowed(s) {
			want = api.ErrState
		}
		if e := Check(s); e != want {
			t.Fatalf("P4.1: Check(%s): %d, want %d", told(s), e, want)
		}
		a := api.Act{What: what, Name: name, To: to, Data: data}
		next, e := Do(s, a)
		if want != api.OK && e != want || e == api.OK && !allowed(next) {
			t.Fatalf("P4.6: Do(%s, %+v): %s, error %d", told(s), a, told(next), e)
		}
		after, n, ran := Run(s, []api.Act{a, a})
		if want != api.OK && (ran != want || n != 0 || !same(after, State{})) || want == api.OK && !allowed(after) {
			t.Fatalf("P4.6: Run(%s, %+v twice): %s, %d, error %d", told(s), a, told(after), n, ran)
		}
		left, e := Crash(s, []int{keep, -keep, keep})
		if e != want || e == api.OK && !allowed(left) {
			t.Fatalf("P4.6: Crash(%s): %s, error %d", told(s), told(left), e)
		}
		Read(s, name)
		List(s)
	})
}

// broken: the state with some of its numbers and names changed, a bit of faults for each.
func broken(s State, faults uint64, r *rand.Rand) State {
	at := func(k int) bool { return faults>>k&1 == 1 }
	if at(0) {
		s.Cap = r.Intn(40) - 5
	}
	if at(1) {
		s.Next += r.Intn(5) - 3
	}
	for i := range s.Files {
		if at(2) && r.Intn(3) == 0 {
			s.Files[i].ID += r.Intn(3) - 1
		}
		if at(3) && r.Intn(3) == 0 {
			s.Files[i].Synced += r.Intn(5) - 2
		}
	}
	for k, l := range [][]Name{s.Names, s.Safe} {
		for i := range l {
			if at(4+k) && r.Intn(4) == 0 {
				l[i].ID += r.Intn(3) - 1
			}
			if at(6+k) && r.Intn(4) == 0 {
				l[i].Name = anyAct(r).Name
			}
		}
	}
	if at(8) && len(s.Names) > 0 {
		s.Names = s.Names[1:]
	}
	if at(9) && len(s.Safe) > 0 {
		s.Safe = s.Safe[1:]
	}
	return s
}
