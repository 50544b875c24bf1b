package manifest

import (
	"bytes"
	"fmt"
	"math"
	"math/big"
	"regexp"
	"slices"
	"strconv"
	"strings"
	"testing"

	"tickler/api"
	"tickler/edit"
	"tickler/files"
	"tickler/frame"
	"tickler/sum"
	"tickler/varint"
)

// The highest number of a file's name, and the highest number of a version.
const (
	lastID  = 2147483647
	lastSeq = 1099511627776
)

// entry is a file of a disk: how many octets of it are not synced, and whether its name is there, lasts, or both.
type entry struct {
	name  string
	data  []byte
	loose int
	lost  bool
	fresh bool
}

// disk: a state with room and these files. A lost name is among those that last alone, a fresh one among those that do not.
func disk(l ...entry) files.State {
	s := files.State{Cap: 1 << 20, Next: len(l) + 1}
	for i, f := range l {
		s.Files = append(s.Files, files.File{ID: i + 1, Data: slices.Clone(f.data), Synced: len(f.data) - f.loose})
		n := files.Name{Name: f.name, ID: i + 1}
		if !f.lost {
			s.Names = append(s.Names, n)
		}
		if !f.fresh {
			s.Safe = append(s.Safe, n)
		}
	}
	byName := func(a, b files.Name) int { return strings.Compare(a.Name, b.Name) }
	slices.SortFunc(s.Names, byName)
	slices.SortFunc(s.Safe, byName)
	return s
}

// of: a file of that name.
func of(name string, data ...[]byte) entry {
	return entry{name: name, data: slices.Concat(data...)}
}

// record: one as chapter 5 writes it.
func record(kind byte, data []byte) []byte {
	return sum.Guard(slices.Concat(varint.Put(uint64(len(data))), []byte{kind}, data))
}

// current: what CURRENT has for a number, one that may be or not.
func current(n uint64) []byte {
	return record(4, varint.Put(n))
}

// log: the octets of a manifest with these edits.
func log(l ...edit.Edit) []byte {
	var b []byte
	for _, d := range l {
		x, e := edit.Encode(d)
		if e != api.OK {
			panic(fmt.Sprint("no edit of a manifest: ", e))
		}
		b = append(b, record(5, x)...)
	}
	return b
}

// first: what a manifest has that was begun with v.
func first(v edit.Version) []byte {
	return log(edit.Edit{Add: v.Tables, Seq: v.Seq, Next: v.Next})
}

// store: a disk on which the manifest id counts and has v.
func store(v edit.Version, id int, more ...entry) files.State {
	return disk(append(more, of("m"+strconv.Itoa(id), first(v)), of("CURRENT", current(uint64(id))))...)
}

// table: a meta of three versions.
func table(id, level int, low, high string) edit.Meta {
	return edit.Meta{ID: id, Level: level, Count: 3, Low: low, High: high}
}

// row: n tables of a level, from an ID on, none with a key in common, with the longest keys.
func row(n, id, level int) []edit.Meta {
	var l []edit.Meta
	for i := range n {
		low := fmt.Sprintf("%03d", i) + strings.Repeat("k", 93)
		l = append(l, edit.Meta{ID: id + i, Level: level, Count: 4096, Low: low, High: low})
	}
	return l
}

// levels: a version with tables on several levels.
func levels() edit.Version {
	return edit.Version{Tables: []edit.Meta{
		table(9, 0, "a", "z"), table(8, 0, "b", "y"), table(5, 1, "a", "c"), table(1, 1, "d", "d"), table(7, 2, "\x00", "\xff"), table(4, 3, "a", "z"),
	}, Seq: 1000, Next: 10}
}

// versions: some that may be.
func versions() map[string]edit.Version {
	return map[string]edit.Version{
		"new":           {Next: 1},
		"an empty list": {Tables: []edit.Meta{}, Seq: 128, Next: 300},
		"one":           {Tables: []edit.Meta{table(1, 0, "a", "b")}, Seq: 3, Next: 2},
		"levels":        levels(),
		"all at most":   {Tables: []edit.Meta{table(lastID-1, 3, "z", "z")}, Seq: lastSeq, Next: lastID},
		"256 tables":    {Tables: row(256, lastID-256, 2), Seq: lastSeq, Next: lastID},
	}
}

// noVersions: some that may not be.
func noVersions() map[string]edit.Version {
	return map[string]edit.Version{
		"nothing":            {},
		"Seq -1":             {Seq: -1, Next: 1},
		"Seq above all":      {Seq: lastSeq + 1, Next: 1},
		"Next above all":     {Next: lastID + 1},
		"a table of ID 0":    {Tables: []edit.Meta{table(0, 0, "a", "b")}, Next: 5},
		"a table of ID Next": {Tables: []edit.Meta{table(5, 0, "a", "b")}, Next: 5},
		"a table twice":      {Tables: []edit.Meta{table(1, 0, "a", "b"), table(1, 0, "a", "b")}, Next: 5},
		"a key in common":    {Tables: []edit.Meta{table(1, 1, "a", "c"), table(2, 1, "b", "d")}, Next: 5},
		"257 tables":         {Tables: row(257, 1, 2), Seq: 1, Next: 1000},
	}
}

// noStates: files that may not be, each with a CURRENT and a manifest that would do.
func noStates() map[string]files.State {
	all := map[string]files.State{}
	change := func(what string, do func(s *files.State)) {
		s := store(levels(), 3, of("l4"))
		do(&s)
		all[what] = s
	}
	change("Cap below 0", func(s *files.State) { s.Cap = -1 })
	change("Cap above all", func(s *files.State) { s.Cap = 1<<24 + 1 })
	change("Cap below what there is", func(s *files.State) { s.Cap = 10 })
	change("Next 0", func(s *files.State) { s.Next = 0 })
	change("Next among the files", func(s *files.State) { s.Next = 2 })
	change("names that do not rise", func(s *files.State) { slices.Reverse(s.Names) })
	change("lasting names that do not rise", func(s *files.State) { slices.Reverse(s.Safe) })
	change("a name with a blank", func(s *files.State) { s.Names[0].Name = " " })
	change("a name of no file", func(s *files.State) { s.Names[1].ID = 77 })
	change("two names of one file", func(s *files.State) { s.Names[1].ID = s.Names[0].ID })
	change("a file without a name", func(s *files.State) { s.Names, s.Safe = s.Names[1:], s.Safe[1:] })
	change("more synced than there is", func(s *files.State) { s.Files[0].Synced = 1 })
	change("less than nothing synced", func(s *files.State) { s.Files[0].Synced = -1 })
	change("nothing at all", func(s *files.State) { *s = files.State{} })
	return all
}

// badIDs: numbers that no name has.
func badIDs() []int {
	return []int{0, -1, -2147483648, math.MinInt, lastID + 1, lastID + 2, 1 << 32, 1<<32 + 3, math.MaxInt}
}

// goodIDs: numbers that a name may have.
func goodIDs() []int {
	return []int{1, 2, 3, 9, 10, 99, 127, 128, 16384, 1 << 21, 1 << 28, 1 << 30, lastID - 1, lastID}
}

// refusedEdits: edits without octets, with edit.Encode's error.
func refusedEdits() map[string]struct {
	d    edit.Edit
	want api.Errno
} {
	all := map[string]struct {
		d    edit.Edit
		want api.Errno
	}{}
	put := func(what string, want api.Errno, d edit.Edit) {
		c := all[what]
		c.d, c.want = d, want
		all[what] = c
	}
	put("257 to drop", api.ErrCount, edit.Edit{Drop: make([]int, 257), Next: 1})
	put("257 to add", api.ErrCount, edit.Edit{Add: make([]edit.Meta, 257), Next: 1})
	put("257 to drop, and a number below 0", api.ErrCount, edit.Edit{Drop: make([]int, 257), Seq: -1})
	put("Seq -1", api.ErrArg, edit.Edit{Seq: -1, Next: 1})
	put("Seq above 2^40", api.ErrArg, edit.Edit{Seq: lastSeq + 1, Next: 1})
	put("Next -1", api.ErrArg, edit.Edit{Next: -1})
	put("an ID to drop below 0", api.ErrArg, edit.Edit{Drop: []int{1, -1}, Next: 1})
	put("a text of 97 octets", api.ErrArg, edit.Edit{Add: []edit.Meta{table(1, 0, strings.Repeat("k", 97), "z")}, Next: 1})
	return all
}

// edits: edits that have octets, some of which make no version of another.
func edits() map[string]edit.Edit {
	return map[string]edit.Edit{
		"nothing":        {},
		"numbers":        {Seq: 7, Next: 9},
		"empty lists":    {Drop: []int{}, Add: []edit.Meta{}, Seq: 7, Next: 9},
		"all at most":    {Drop: []int{lastSeq}, Add: []edit.Meta{{ID: lastSeq, Level: lastSeq, Count: lastSeq}}, Seq: lastSeq, Next: lastSeq},
		"drop and add":   {Drop: []int{9, 8}, Add: []edit.Meta{table(10, 0, "c", "e")}, Seq: 2000, Next: 11},
		"256 and 256":    {Drop: slices.Repeat([]int{lastSeq}, 256), Add: row(256, 1<<39, 1<<39), Seq: lastSeq, Next: lastSeq},
		"never applied":  {Drop: []int{5, 5}, Add: []edit.Meta{{}}},
		"texts of none":  {Add: []edit.Meta{{ID: 1}}, Next: 2},
		"octets as keys": {Add: []edit.Meta{table(1, 1, "\x00", "\xff")}, Next: 2},
	}
}

var aName = regexp.MustCompile(`\A([mlt])([1-9][0-9]*)\z`)

// modelParse: what Parse should answer.
func modelParse(name string) (byte, int, bool) {
	part := aName.FindStringSubmatch(name)
	if part == nil {
		return 0, 0, false
	}
	n, _ := new(big.Int).SetString(part[2], 10)
	if n.BitLen() > 31 {
		return 0, 0, false
	}
	return part[1][0], int(n.Int64()), true
}

// has: is there a file of that name, of all that are named now?
func has(s files.State, name string) bool {
	return slices.ContainsFunc(s.Names, func(n files.Name) bool { return n.Name == name })
}

// octets: those of the file of that name.
func octets(s files.State, name string) []byte {
	for _, n := range s.Names {
		for _, f := range s.Files {
			if n.Name == name && n.ID == f.ID {
				return f.Data
			}
		}
	}
	return nil
}

// modelBegin: the acts that Begin should tell, of arguments that are taken.
func modelBegin(s files.State, v edit.Version, id int) []api.Act {
	var l []api.Act
	m := fmt.Sprintf("m%d", id)
	if has(s, m) {
		l = append(l, api.Act{What: 5, Name: m})
	}
	l = append(l, api.Act{What: 1, Name: m}, api.Act{What: 2, Name: m, Data: first(v)}, api.Act{What: 3, Name: m})
	if has(s, "next") {
		l = append(l, api.Act{What: 5, Name: "next"})
	}
	l = append(l, api.Act{What: 1, Name: "next"}, api.Act{What: 2, Name: "next", Data: current(uint64(id))}, api.Act{What: 3, Name: "next"})
	return append(l, api.Act{What: 6}, api.Act{What: 4, Name: "next", To: "CURRENT"}, api.Act{What: 6})
}

// modelLoad: what Load should answer, of files that may be: of the numbers it is the one that would have made just these octets.
func modelLoad(s files.State) (edit.Version, int, api.Errno) {
	if !has(s, "CURRENT") {
		return edit.Version{}, 0, api.ErrNone
	}
	id := 0
	if r, _, e := frame.Get(octets(s, "CURRENT")); e == api.OK {
		l, _ := varint.All(r.Data)
		for _, n := range l {
			if n > 0 && n < 1<<31 && bytes.Equal(current(n), octets(s, "CURRENT")) {
				id = int(n)
			}
		}
	}
	if id == 0 {
		return edit.Version{}, 0, api.ErrCorrupt
	}
	m := fmt.Sprint("m", id)
	if !has(s, m) {
		return edit.Version{}, 0, api.ErrNone
	}
	v, count := edit.Version{Next: 1}, 0
	for b := octets(s, m); ; count++ {
		r, n, e := frame.Get(b)
		if e != api.OK {
			break
		}
		d, e := edit.Decode(r.Data)
		if e != api.OK || r.Kind != 5 {
			return edit.Version{}, 0, api.ErrCorrupt
		}
		if v, e = edit.Apply(v, d); e != api.OK {
			return edit.Version{}, 0, api.ErrCorrupt
		}
		b = b[n:]
	}
	if count == 0 {
		return edit.Version{}, 0, api.ErrCorrupt
	}
	return v, id, api.OK
}

// modelOrphans: what Orphans should answer, of files that may be.
func modelOrphans(s files.State, v edit.Version, id, log int) []string {
	var l []string
	for _, n := range s.Names {
		kind, number, ok := modelParse(n.Name)
		needed := n.Name == "CURRENT"
		switch {
		case ok && kind == 'm':
			needed = number == id
		case ok && kind == 'l':
			needed = number >= log
		case ok && kind == 't':
			needed = slices.ContainsFunc(v.Tables, func(m edit.Meta) bool { return m.ID == number })
		}
		if !needed {
			l = append(l, n.Name)
		}
	}
	slices.Sort(l)
	return l
}

// same: are two versions one, with nil and empty lists as one?
func same(a, b edit.Version) bool {
	return slices.Equal(a.Tables, b.Tables) && a.Seq == b.Seq && a.Next == b.Next
}

// none: is it the version of a refused call?
func none(v edit.Version) bool {
	return len(v.Tables) == 0 && v.Seq == 0 && v.Next == 0
}

// sameActs: are two lists of acts one?
func sameActs(a, b []api.Act) bool {
	return slices.EqualFunc(a, b, func(x, y api.Act) bool {
		return x.What == y.What && x.Name == y.Name && x.To == y.To && bytes.Equal(x.Data, y.Data)
	})
}

// done: the files behind acts that must all be done.
func done(t *testing.T, s files.State, l []api.Act) files.State {
	t.Helper()
	next, n, e := files.Run(s, l)
	if n != len(l) || e != api.OK {
		t.Fatalf("P14.2: of %d acts %d were done: error %d; %s", len(l), n, e, brief(l))
	}
	return next
}

// brief: a value as a failure tells it, cut off where it is long, with no octet that is not to be read.
func brief(x any) string {
	text := strconv.QuoteToASCII(fmt.Sprint(x))
	return text[:min(len(text), 400)]
}

func TestTheListsAreAsTold(t *testing.T) {
	for what, s := range noStates() {
		if files.Check(s) != api.ErrState {
			t.Errorf("files with %s may be", what)
		}
	}
	for what, v := range noVersions() {
		if edit.Check(v) != api.ErrState {
			t.Errorf("a version with %s may be", what)
		}
	}
	for what, v := range versions() {
		if edit.Check(v) != api.OK {
			t.Errorf("the version %s may not be", what)
		}
	}
	for what, c := range refusedEdits() {
		if _, e := edit.Encode(c.d); e != c.want {
			t.Errorf("the edit with %s: error %d, want %d", what, e, c.want)
		}
	}
	if files.Check(store(levels(), 3, of("l4"), entry{name: "next", lost: true}, entry{name: "x", fresh: true})) != api.OK {
		t.Error("a store's files may not be")
	}
}
