package db

import (
	"bytes"
	"cmp"
	"fmt"
	"maps"
	"slices"
	"strconv"
	"strings"
	"testing"

	"tickler/api"
	"tickler/edit"
	"tickler/files"
	"tickler/frame"
	"tickler/skip"
	"tickler/table"
	"tickler/varint"
	"tickler/wal"
)

// The highest number of a file's name, the highest Seq of a store, and room for all that a test writes.
const (
	lastID  = 2147483647
	lastSeq = 1099511627776 - 64
	room    = 1 << 22
)

// entry is a file of a disk: how many octets of it are not synced, and whether its name is there, lasts, or both.
type entry struct {
	name  string
	data  []byte
	loose int
	lost  bool
	fresh bool
}

// disk: a state with room and these files. A lost name is among those that last alone, a fresh one among those that do not.
func disk(l ...entry) files.State {
	s := files.State{Cap: room, Next: len(l) + 1}
	for i, f := range l {
		s.Files = append(s.Files, files.File{ID: i + 1, Data: slices.Clone(f.data), Synced: len(f.data) - f.loose})
		n := files.Name{Name: f.name, ID: i + 1}
		if !f.lost {
			s.Names = append(s.Names, n)
		}
		if !f.fresh {
			s.Safe = append(s.Safe, n)
		}
	}
	byName := func(a, b files.Name) int { return strings.Compare(a.Name, b.Name) }
	slices.SortFunc(s.Names, byName)
	slices.SortFunc(s.Safe, byName)
	return s
}

// of: a file of that name.
func of(name string, data ...[]byte) entry {
	return entry{name: name, data: slices.Concat(data...)}
}

// record: one as chapter 5 writes it.
func record(kind int, data []byte) []byte {
	b, e := frame.Put(frame.Record{Kind: kind, Data: data})
	if e != api.OK {
		panic(fmt.Sprint("no record: ", e))
	}
	return b
}

// current: what CURRENT has for a number, one that may be or not.
func current(n uint64) []byte {
	return record(4, varint.Put(n))
}

// edits: the octets of a manifest with these edits.
func edits(l ...edit.Edit) []byte {
	var b []byte
	for _, d := range l {
		x, e := edit.Encode(d)
		if e != api.OK {
			panic(fmt.Sprint("no edit of a manifest: ", e))
		}
		b = append(b, record(5, x)...)
	}
	return b
}

// whole: the octets of a manifest that was begun with v.
func whole(v edit.Version) []byte {
	return edits(edit.Edit{Add: v.Tables, Seq: v.Seq, Next: v.Next})
}

// set and gone: changes.
func set(key, value string) api.Change { return api.Change{Key: key, Value: value} }

func gone(key string) api.Change { return api.Change{Key: key, Del: true} }

// is and isnt: versions.
func is(key string, seq int, value string) api.Entry {
	return api.Entry{Key: key, Seq: seq, Kind: 1, Value: value}
}

func isnt(key string, seq int) api.Entry { return api.Entry{Key: key, Seq: seq, Kind: 2} }

// batches: the octets of a log with batches that begin there, each of some changes.
func batches(seq int, l ...[]api.Change) []byte {
	var b []byte
	for _, changes := range l {
		next, e := wal.Add(b, wal.Batch{Seq: seq, Changes: changes})
		if e != api.OK {
			panic(fmt.Sprint("no batch: ", e))
		}
		b, seq = next, seq+len(changes)
	}
	return b
}

// octetsOf: a table's octets.
func octetsOf(l ...api.Entry) []byte {
	b, e := table.Build(l)
	if e != api.OK {
		panic(fmt.Sprint("no table: ", e))
	}
	return b
}

// meta: what is told of a table.
func meta(id, level int, l ...api.Entry) edit.Meta {
	return edit.Meta{ID: id, Level: level, Count: len(l), Low: l[0].Key, High: l[len(l)-1].Key}
}

// listOf: a list with these versions, of heights that differ.
func listOf(l ...api.Entry) skip.State {
	s := skip.New()
	for i, x := range l {
		next, e := skip.Put(s, x, i%8+1)
		if e != api.OK {
			panic(fmt.Sprint("no version of a list: ", e))
		}
		s = next
	}
	return s
}

// run is the versions of a table on a level.
type run struct {
	level int
	l     []api.Entry
}

// made: a store that was laid by hand: tables with the numbers from 1 on, and a list, which the log has too, of all numbers up to seq that are behind those of the tables.
func made(seq int, mem []api.Entry, tables ...run) State {
	d := edit.Edit{Seq: seq - len(mem), Next: len(tables) + 1}
	var l []entry
	for i, r := range tables {
		d.Add = append(d.Add, meta(i+1, r.level, r.l...))
		l = append(l, of(fmt.Sprint("t", i+1), octetsOf(r.l...)))
	}
	v, e := edit.Apply(edit.New(), d)
	if e != api.OK {
		panic(fmt.Sprint("no version: ", e))
	}
	byNumber := slices.SortedFunc(slices.Values(mem), func(a, b api.Entry) int { return cmp.Compare(a.Seq, b.Seq) })
	var log [][]api.Change
	for _, x := range byNumber {
		log = append(log, []api.Change{{Key: x.Key, Value: x.Value, Del: x.Kind == 2}})
	}
	l = append(l, of("CURRENT", current(3)), of("m3", whole(v)), of("l7", batches(v.Seq+1, log...)))
	return State{Files: disk(l...), Version: v, Manifest: 3, Log: 7, Mem: listOf(mem...), Seq: seq}
}

// row: n versions of keys that rise, with numbers from seq on.
func row(n, seq int) []api.Entry {
	var l []api.Entry
	for i := range n {
		l = append(l, is(fmt.Sprintf("k%04d", i), seq+i, strconv.Itoa(i)))
	}
	return l
}

// filled: n versions of keys that rise, with numbers from 1 on, as a list: each node is as high as its place has zeros at the end.
func filled(n int) skip.State {
	s := skip.State{Head: make([]int, 8)}
	ends := make([]*int, 8)
	for i := range ends {
		ends[i] = &s.Head[i]
	}
	for i, x := range row(n, 1) {
		node := skip.Node{Entry: x, Next: make([]int, 1)}
		for k := i + 1; k%2 == 0 && len(node.Next) < 8; k /= 2 {
			node.Next = append(node.Next, 0)
		}
		s.Nodes = append(s.Nodes, node)
		for level := range node.Next {
			*ends[level] = i + 1
			ends[level] = &node.Next[level]
		}
	}
	return s
}

// has: is there a file of that name?
func has(f files.State, name string) bool {
	_, e := files.Read(f, name)
	return e == api.OK
}

// octets: those of the file of that name.
func octets(f files.State, name string) []byte {
	b, _ := files.Read(f, name)
	return b
}

// names: those of all files.
func names(f files.State) []string {
	l, _ := files.List(f)
	return l
}

// modelScan: what Scan should answer of a store that may be, at a number that may be, if its tables are as they should be: of all versions, the last one first, the first of each key counts.
func modelScan(s State, from, to string, seq int) []api.Pair {
	var all []api.Entry
	for _, n := range s.Mem.Nodes {
		all = append(all, n.Entry)
	}
	for _, m := range s.Version.Tables {
		t, _ := table.Open(octets(s.Files, fmt.Sprint("t", m.ID)))
		all = append(all, t.Entries...)
	}
	slices.SortStableFunc(all, func(a, b api.Entry) int {
		return cmp.Or(strings.Compare(a.Key, b.Key), cmp.Compare(b.Seq, a.Seq))
	})
	all = slices.DeleteFunc(all, func(x api.Entry) bool { return x.Seq > seq || x.Key < from || to != "" && x.Key >= to })
	all = slices.CompactFunc(all, func(a, b api.Entry) bool { return a.Key == b.Key })
	var l []api.Pair
	for _, x := range all {
		if x.Kind == 1 {
			l = append(l, api.Pair{Key: x.Key, Value: x.Value})
		}
	}
	return l
}

// pairsOf: what a map has, by key.
func pairsOf(m map[string]string) []api.Pair {
	var l []api.Pair
	for _, key := range slices.Sorted(maps.Keys(m)) {
		l = append(l, api.Pair{Key: key, Value: m[key]})
	}
	return l
}

// sameFiles: are two states of files one, with nil and empty lists as one?
func sameFiles(a, b files.State) bool {
	return a.Cap == b.Cap && a.Next == b.Next && slices.Equal(a.Names, b.Names) && slices.Equal(a.Safe, b.Safe) &&
		slices.EqualFunc(a.Files, b.Files, func(x, y files.File) bool {
			return x.ID == y.ID && x.Synced == y.Synced && bytes.Equal(x.Data, y.Data)
		})
}

// sameVersion: are two versions one?
func sameVersion(a, b edit.Version) bool {
	return slices.Equal(a.Tables, b.Tables) && a.Seq == b.Seq && a.Next == b.Next
}

// sameList: are two lists of versions one?
func sameList(a, b skip.State) bool {
	return slices.Equal(a.Head, b.Head) && slices.EqualFunc(a.Nodes, b.Nodes, func(x, y skip.Node) bool {
		return x.Entry == y.Entry && slices.Equal(x.Next, y.Next)
	})
}

// same: are two stores one?
func same(a, b State) bool {
	return sameFiles(a.Files, b.Files) && sameVersion(a.Version, b.Version) && a.Manifest == b.Manifest && a.Log == b.Log &&
		sameList(a.Mem, b.Mem) && a.Seq == b.Seq && slices.Equal(a.Snaps, b.Snaps)
}

// sameActs: are two lists of acts one?
func sameActs(a, b []api.Act) bool {
	return slices.EqualFunc(a, b, func(x, y api.Act) bool {
		return x.What == y.What && x.Name == y.Name && x.To == y.To && bytes.Equal(x.Data, y.Data)
	})
}

// brief: a value as a failure tells it, cut off where it is long, with no octet that is not to be read.
func brief(x any) string {
	text := strconv.QuoteToASCII(fmt.Sprint(x))
	return text[:min(len(text), 400)]
}

// done: the files behind acts that must all be done.
func done(t *testing.T, f files.State, l []api.Act) files.State {
	t.Helper()
	next, n, e := files.Run(f, l)
	if n != len(l) || e != api.OK {
		t.Fatalf("P15.2: of %d acts %d were done: error %d; %s", len(l), n, e, brief(l))
	}
	return next
}

// needed: the names of the files that a store needs, by name.
func needed(s State) []string {
	l := []string{"CURRENT", fmt.Sprint("m", s.Manifest), fmt.Sprint("l", s.Log)}
	for _, m := range s.Version.Tables {
		l = append(l, fmt.Sprint("t", m.ID))
	}
	slices.Sort(l)
	return l
}

// sound fails unless a store that calls made is as it should be: it may be; it has just the files that it needs, and all of them last; its tables are what the version tells of them; its log has what lies in the list.
func sound(t *testing.T, what string, s State) {
	t.Helper()
	if e := Check(s); e != api.OK {
		t.Fatalf("P15.1: %s: the store may not be: error %d", what, e)
	}
	if l := names(s.Files); !slices.Equal(l, needed(s)) {
		t.Errorf("P15.3: %s: there are the files %s, it needs %s", what, brief(l), brief(needed(s)))
	}
	if !slices.Equal(s.Files.Names, s.Files.Safe) || slices.ContainsFunc(s.Files.Files, func(f files.File) bool { return f.Synced != len(f.Data) }) {
		t.Errorf("P15.6: %s: not all files last", what)
	}
	for _, m := range s.Version.Tables {
		x, e := table.Open(octets(s.Files, fmt.Sprint("t", m.ID)))
		if e != api.OK || meta(m.ID, m.Level, x.Entries...) != m {
			t.Errorf("P15.3: %s: the table %s has other versions: error %d", what, brief(m), e)
		}
		if slices.ContainsFunc(x.Entries, func(x api.Entry) bool { return x.Seq > s.Version.Seq }) {
			t.Errorf("P15.3: %s: the table %s has numbers above the version's", what, brief(m))
		}
	}
	inLog, end := replayed(octets(s.Files, fmt.Sprint("l", s.Log)), s.Version.Seq)
	inMem, _ := skip.All(s.Mem)
	if end != s.Seq || !slices.Equal(inLog, inMem) {
		t.Errorf("P15.2: %s: the log goes to %d and has %s, the list goes to %d and has %s", what, end, brief(inLog), s.Seq, brief(inMem))
	}
}

// replayed: the versions of a log, in order, if all of it are batches one behind the other from just behind that number on; and the number of the last one.
func replayed(log []byte, seq int) ([]api.Entry, int) {
	l, n := wal.Replay(log)
	if n != len(log) || len(l) > 0 && l[0].Seq != seq+1 {
		return nil, -1
	}
	var all []api.Entry
	for _, b := range l {
		versions, _ := wal.Entries(b)
		all = append(all, versions...)
		seq += len(versions)
	}
	slices.SortFunc(all, func(a, b api.Entry) int {
		return cmp.Or(strings.Compare(a.Key, b.Key), cmp.Compare(b.Seq, a.Seq))
	})
	return all, seq
}

// The calls of a test, each of which must be told OK, with the acts that make its files.

func opened(t *testing.T, f files.State) State {
	t.Helper()
	s, l, e := Open(f)
	return behind(t, "Open", f, s, l, e)
}

func written(t *testing.T, s State, l ...api.Change) State {
	t.Helper()
	next, acts, e := Write(s, l, []uint64{0, 4, 1})
	return behind(t, "Write", s.Files, next, acts, e)
}

func flushed(t *testing.T, s State) State {
	t.Helper()
	next, acts, e := Flush(s)
	return behind(t, "Flush", s.Files, next, acts, e)
}

func compacted(t *testing.T, s State) (State, bool) {
	t.Helper()
	next, did, acts, e := Compact(s)
	if !did && (len(acts) > 0 || !same(next, s)) {
		t.Fatalf("P15.3: Compact tells false, and %d acts, or another store", len(acts))
	}
	return behind(t, "Compact", s.Files, next, acts, e), did
}

func snapped(t *testing.T, s State) State {
	t.Helper()
	next, n, e := Snap(s)
	if n != s.Seq {
		t.Fatalf("P15.4: Snap at %d tells %d", s.Seq, n)
	}
	return behind(t, "Snap", s.Files, next, nil, e)
}

// behind: the store that a call answers.
func behind(t *testing.T, what string, f files.State, s State, l []api.Act, e api.Errno) State {
	t.Helper()
	if e != api.OK {
		t.Fatalf("P15.7: %s is refused: error %d", what, e)
	}
	if !sameFiles(done(t, f, l), s.Files) {
		t.Fatalf("P15.1: the acts that %s tells do not make its files: %s", what, brief(l))
	}
	return s
}

// merged: the store behind Compact, again and again till it tells false, and how often it told true.
func merged(t *testing.T, s State) (State, int) {
	t.Helper()
	for n := range 1000 {
		next, did := compacted(t, s)
		if !did {
			return s, n
		}
		s = next
	}
	t.Fatal("P15.3: Compact does not tell false")
	return s, 0
}

// tells fails unless the store tells just these pairs at that number.
func tells(t *testing.T, what string, s State, seq int, want []api.Pair) {
	t.Helper()
	if l, e := Scan(s, "", "", seq); e != api.OK || !slices.Equal(l, want) {
		t.Errorf("P15.5: %s: Scan at %d: %s, error %d; want %s", what, seq, brief(l), e, brief(want))
	}
}

// levelsOf: how many tables a store has on each level.
func levelsOf(s State) [4]int {
	var n [4]int
	for _, m := range s.Version.Tables {
		n[m.Level]++
	}
	return n
}

func TestTheHelpersAreRight(t *testing.T) {
	for _, n := range []int{0, 1, 2, 100, 4096} {
		if l, e := skip.All(filled(n)); e != api.OK || !slices.Equal(l, row(n, 1)) {
			t.Errorf("a filled list of %d: error %d", n, e)
		}
	}
	s := made(9, []api.Entry{is("b", 9, "x"), isnt("a", 8)}, run{0, []api.Entry{is("a", 7, "y")}}, run{1, row(7, 1)})
	sound(t, "a store made by hand", s)
	if Check(s) != api.OK || !same(s, s) || same(s, State{}) {
		t.Error("a store made by hand may not be")
	}
}
