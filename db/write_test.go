package db

import (
	"bytes"
	"fmt"
	"slices"
	"strings"
	"testing"

	"tickler/api"
	"tickler/edit"
	"tickler/files"
	"tickler/skip"
	"tickler/wal"
)

// write: a call of Write.
func write(l []api.Change, draws ...uint64) func(s State) (State, []api.Act, api.Errno) {
	return func(s State) (State, []api.Act, api.Errno) { return Write(s, l, draws) }
}

// some: n changes.
func some(n int) []api.Change {
	var l []api.Change
	for i := range n {
		l = append(l, set(fmt.Sprintf("n%02d", i), fmt.Sprint(i)))
	}
	return l
}

// modelWrite: what Write should answer where it refuses nothing: the state and the acts, from the lower layers alone.
func modelWrite(t *testing.T, s State, l []api.Change, draws []uint64) (State, []api.Act) {
	t.Helper()
	b := wal.Batch{Seq: s.Seq + 1, Changes: l}
	log := fmt.Sprint("l", s.Log)
	x, _ := wal.Encode(b)
	acts := []api.Act{{What: 2, Name: log, Data: record(1, x)}, {What: 3, Name: log}}
	s.Files = done(t, s.Files, acts)
	versions, _ := wal.Entries(b)
	for i, x := range versions {
		height := 1
		if i < len(draws) {
			for d := draws[i]; d%4 == 0 && height < 8; d /= 4 {
				height++
			}
		}
		var e api.Errno
		if s.Mem, e = skip.Put(s.Mem, x, height); e != api.OK {
			t.Fatalf("skip.Put: error %d", e)
		}
	}
	s.Seq += len(l)
	return s, acts
}

// P15.2: Write

func TestWriteTellsTwoActs(t *testing.T) {
	s, l, e := Write(opened(t, disk()), []api.Change{set("a", "x"), gone("b")}, nil)
	log := fmt.Sprint("l", s.Log)
	// Chapters 1, 5 and 6: the record's length and kind; Seq 1, two changes; a value; a key that is gone.
	want := []byte{10, 1, 1, 2, 1, 1, 'a', 1, 'x', 2, 1, 'b'}
	if e != api.OK || len(l) != 2 || l[0].What != 2 || l[0].Name != log || l[0].To != "" || !bytes.HasPrefix(l[0].Data, want) || len(l[0].Data) != len(want)+4 {
		t.Errorf("P15.2: Write: %s, error %d", brief(l), e)
	}
	if l[1].What != 3 || l[1].Name != log || l[1].To != "" || len(l[1].Data) != 0 {
		t.Errorf("P15.2: Write: %s, error %d", brief(l), e)
	}
	sound(t, "two changes", s)
	tells(t, "two changes", s, 2, []api.Pair{{Key: "a", Value: "x"}})
}

func TestWriteOfEachLength(t *testing.T) {
	for where, s := range map[string]State{"an empty store": opened(t, disk()), "ground": ground(), "tables": made(9, nil, run{0, row(9, 1)})} {
		for _, n := range []int{1, 2, 3, 16, 63, 64} {
			for what, draws := range map[string][]uint64{
				"none": nil, "empty": {}, "one": {0}, "fewer": {1, 4, 16}, "mixed": {0, 1, 4, 1 << 13, 1 << 14, 3, 12, 1 << 63, 0xffff, 64},
				"as many": slices.Repeat([]uint64{4}, n), "more": slices.Repeat([]uint64{16, 0}, 64),
			} {
				l := some(n)
				next, acts, e := Write(s, l, draws)
				want, wantActs := modelWrite(t, s, l, draws)
				if e != api.OK || !same(next, want) || !sameActs(acts, wantActs) {
					t.Errorf("P15.2: %s: Write of %d changes, draws: %s: error %d, %s", where, n, what, e, brief(next))
				}
				if Check(next) != api.OK {
					t.Errorf("P15.2: %s: behind Write of %d changes, draws: %s, the store may not be", where, n, what)
				}
			}
		}
	}
}

func TestWriteOfOneKeyManyTimes(t *testing.T) {
	s := opened(t, disk())
	s = written(t, s, set("a", "1"), gone("a"), set("a", "3"), set("a", "4"), gone("a"))
	for seq, want := range []string{"", "1", "", "3", "4", ""} {
		if v, ok, e := Get(s, "a", seq); v != want || ok != (want != "") || e != api.OK {
			t.Errorf("P15.2: a at %d: %q, %t, error %d; want %q", seq, v, ok, e, want)
		}
	}
}

func TestWriteOfTheLongest(t *testing.T) {
	s := opened(t, disk())
	var l []api.Change
	for i := range 64 {
		l = append(l, set(fmt.Sprintf("%02d", i)+strings.Repeat("\xff", 94), strings.Repeat("\x00", 512)))
	}
	s = written(t, s, l...)
	sound(t, "the longest batch", s)
	opensTo(t, "the longest batch", s.Files, 64, modelScan(s, "", "", 64))
}

// refusedBatches: what chapter 6 refuses, with its error.
func refusedBatches() map[string]struct {
	l    []api.Change
	want api.Errno
} {
	type batch = struct {
		l    []api.Change
		want api.Errno
	}
	good, long := set("a", "x"), strings.Repeat("v", 513)
	return map[string]batch{
		"none":                      {nil, api.ErrCount},
		"an empty list":             {[]api.Change{}, api.ErrCount},
		"65":                        {some(65), api.ErrCount},
		"1000":                      {some(1000), api.ErrCount},
		"5000":                      {some(5000), api.ErrCount},
		"no key":                    {[]api.Change{set("", "x")}, api.ErrName},
		"no key at last":            {[]api.Change{good, good, gone("")}, api.ErrName},
		"a long key":                {[]api.Change{good, set(strings.Repeat("k", 97), "x")}, api.ErrName},
		"a long value":              {[]api.Change{set("a", long)}, api.ErrLong},
		"a value gone":              {[]api.Change{good, {Key: "a", Del: true, Value: "x"}}, api.ErrArg},
		"a long value gone":         {[]api.Change{{Key: "a", Del: true, Value: long}}, api.ErrLong},
		"the first one's":           {[]api.Change{good, {Key: "a", Del: true, Value: "x"}, set("", long), set("a", long)}, api.ErrArg},
		"a key ahead of its value":  {[]api.Change{set("", long)}, api.ErrName},
		"a count ahead of a key":    {append(some(65), set("", "")), api.ErrCount},
		"a long value, then no key": {[]api.Change{set("a", long), set("", "x")}, api.ErrLong},
	}
}

func TestWriteOfBatchesThatMayNotBe(t *testing.T) {
	full := opened(t, disk())
	full.Files.Cap = used(full.Files)
	crowded := ground()
	crowded.Mem, crowded.Seq = filled(4096), 4096
	lost := ground()
	lost.Files = files.State{Next: 1}
	for what, c := range refusedBatches() {
		for where, s := range map[string]State{"empty": opened(t, disk()), "ground": ground(), "no room": full, "4096 versions": crowded, "no log": lost} {
			refuses(t, what+", "+where, s, c.want, write(c.l, 4, 4, 4))
		}
		top := ground()
		top.Seq = lastSeq
		refuses(t, what+", at the top", top, api.ErrRange, write(c.l))
	}
}

func TestWriteAtTheTop(t *testing.T) {
	s := ground()
	s.Files = disk(of("l7"))
	for _, c := range []struct{ seq, n int }{{lastSeq - 64, 64}, {lastSeq - 2, 2}, {lastSeq - 1, 1}} {
		s.Seq = c.seq
		next, acts, e := Write(s, some(c.n), nil)
		want, wantActs := modelWrite(t, s, some(c.n), nil)
		if e != api.OK || !same(next, want) || !sameActs(acts, wantActs) || next.Seq != lastSeq || Check(next) != api.OK {
			t.Errorf("P15.2: Write of %d behind %d: Seq %d, error %d", c.n, c.seq, next.Seq, e)
		}
		refuses(t, "Write at the top", next, api.ErrRange, write(some(1)))
	}
	s.Seq = lastSeq
	refuses(t, "Write at the top", s, api.ErrRange, write(some(1)))
	refuses(t, "Write at the top", s, api.ErrRange, write(some(64)))
}

// Chapter 6 looks at a batch's first number alone: the last number of a store may be passed, and what is behind may not be.
func TestWriteOverTheTop(t *testing.T) {
	s := ground()
	s.Files, s.Seq = disk(of("l7")), lastSeq-1
	next, acts, e := Write(s, some(2), nil)
	want, wantActs := modelWrite(t, s, some(2), nil)
	if e != api.OK || !same(next, want) || !sameActs(acts, wantActs) || Check(next) != api.ErrState {
		t.Errorf("P15.2: Write of 2 behind %d: Seq %d, error %d", s.Seq, next.Seq, e)
	}
}

// No call makes such a store, but it may be: the number is there already.
func TestWriteOfANumberThatIsThere(t *testing.T) {
	s := ground()
	s.Seq = 11
	refuses(t, "Write of a number that is there", s, api.ErrTwice, write([]api.Change{set("b", "x")}))
	next, _, e := Write(s, []api.Change{set("c", "x")}, nil)
	if e != api.OK || next.Seq != 12 || len(next.Mem.Nodes) != 4 {
		t.Errorf("P15.2: Write of a number that another key has: Seq %d, error %d", next.Seq, e)
	}
}

func TestWriteOfMoreThanTheListHas(t *testing.T) {
	for _, c := range []struct{ had, n int }{{4095, 1}, {4094, 2}, {4032, 64}, {4096, 0}, {4000, 64}} {
		s := made(4096, nil)
		s.Mem = filled(c.had)
		if c.n > 0 {
			next, acts, e := Write(s, some(c.n), nil)
			if e != api.OK || len(acts) != 2 || len(next.Mem.Nodes) != c.had+c.n || Check(next) != api.OK {
				t.Errorf("P15.2: Write of %d to a list of %d: error %d", c.n, c.had, e)
			}
		}
		if n := 4097 - c.had; n <= 64 {
			refuses(t, fmt.Sprint("Write of ", n, " to a list of ", c.had), s, api.ErrFull, write(some(n)))
			refuses(t, fmt.Sprint("Write of 64 to a list of ", c.had), s, api.ErrFull, write(some(64)))
			s.Files = files.State{Next: 1}
			refuses(t, fmt.Sprint("Write of ", n, " to a list of ", c.had, ", and no log"), s, api.ErrFull, write(some(n)))
		}
	}
}

func TestWriteWhereTheDiskHasJustRoom(t *testing.T) {
	s := written(t, opened(t, disk()), set("a", "x"))
	for _, l := range [][]api.Change{{gone("a")}, {set("b", "y")}, some(64)} {
		want, acts := modelWrite(t, s, l, nil)
		size := len(acts[0].Data)
		for _, more := range []int{size - 1, size, size + 1, 0, 1} {
			tight := s
			tight.Files.Cap = used(s.Files) + more
			if more < size {
				refuses(t, fmt.Sprint("Write of ", size, " octets with room for ", more), tight, api.ErrFull, write(l))
				continue
			}
			next, told, e := Write(tight, l, nil)
			next.Files.Cap = want.Files.Cap
			if e != api.OK || !same(next, want) || !sameActs(told, acts) {
				t.Errorf("P15.2: Write of %d octets with room for %d: error %d", size, more, e)
			}
		}
	}
}

func TestWriteWithoutItsLog(t *testing.T) {
	s := written(t, opened(t, disk()), set("a", "x"))
	s.Log++
	refuses(t, "Write without its log", s, api.ErrNone, write(some(3)))
	s.Files.Cap = used(s.Files)
	refuses(t, "Write without its log, and without room", s, api.ErrNone, write(some(3)))
}

// P15.3: Flush

// afterFlush fails unless next is what a flush makes of s, whose list is not empty.
func afterFlush(t *testing.T, what string, s, next State) {
	t.Helper()
	sound(t, what, next)
	if len(next.Mem.Nodes) != 0 || next.Seq != s.Seq || !slices.Equal(next.Snaps, s.Snaps) || next.Manifest != s.Manifest {
		t.Errorf("P15.3: %s: a list of %d, Seq %d, snapshots %v, manifest %d", what, len(next.Mem.Nodes), next.Seq, next.Snaps, next.Manifest)
	}
	if next.Log == s.Log || len(octets(next.Files, fmt.Sprint("l", next.Log))) != 0 {
		t.Errorf("P15.3: %s: the log %d is no new one", what, next.Log)
	}
	if next.Version.Seq != s.Seq || next.Version.Next != s.Version.Next+1 || len(next.Version.Tables) != len(s.Version.Tables)+1 {
		t.Errorf("P15.3: %s: the version is %s, it was %s", what, brief(next.Version), brief(s.Version))
		return
	}
	newer := next.Version.Tables[0]
	if newer.ID != s.Version.Next || newer.Level != 0 || !slices.Equal(next.Version.Tables[1:], s.Version.Tables) {
		t.Errorf("P15.3: %s: the version is %s, it was %s", what, brief(next.Version), brief(s.Version))
	}
	sameTold(t, what, s, next)
}

// sameTold fails unless both stores tell the same now and at each snapshot.
func sameTold(t *testing.T, what string, s, next State) {
	t.Helper()
	for _, n := range append(slices.Clone(s.Snaps), s.Seq) {
		tells(t, what, next, n, modelScan(s, "", "", n))
	}
}

// lies: the versions of a table of the store.
func lies(t *testing.T, s State, id int) []api.Entry {
	t.Helper()
	l, e := tableOf(s.Files, id)
	if e != api.OK {
		t.Fatalf("P15.3: the table %d: error %d", id, e)
	}
	return l
}

func TestFlushOfAnEmptyList(t *testing.T) {
	for what, s := range map[string]State{"an empty store": opened(t, disk()), "tables": made(9, nil, run{0, row(9, 1)}), "no files": {Files: files.State{Next: 1}, Version: edit.New(), Manifest: 1, Log: 1, Mem: skip.New()}} {
		s.Snaps = []int{0}
		if next, l, e := Flush(s); !same(next, s) || len(l) != 0 || e != api.OK {
			t.Errorf("P15.3: Flush of %s: %d acts, error %d", what, len(l), e)
		}
	}
}

func TestFlushMakesATable(t *testing.T) {
	s := opened(t, disk())
	for i := range 6 {
		s = written(t, s, set("a", fmt.Sprint(i)), set(fmt.Sprint("k", i), "x"), gone("b"))
		next := flushed(t, s)
		afterFlush(t, fmt.Sprint("flush ", i), s, next)
		s = next
	}
	if levelsOf(s) != [4]int{6} {
		t.Errorf("P15.3: six flushes: tables on the levels %v", levelsOf(s))
	}
}

func TestFlushOfWhatIsSeen(t *testing.T) {
	var mem []api.Entry
	for i := range 10 {
		mem = append(mem, is("a", i+1, fmt.Sprint(i)), isnt("b", i+11), is("c", i+21, "c"))
	}
	slices.SortFunc(mem, order)
	for _, snaps := range [][]int{nil, {0}, {3}, {10}, {30}, {1, 2, 3}, {0, 5, 15, 25, 30}, {1, 2, 3, 4, 5, 6, 7, 8, 9, 11, 12, 13, 14, 15, 16, 17}} {
		s := made(30, mem)
		s.Snaps = snaps
		next := flushed(t, s)
		afterFlush(t, fmt.Sprint("seen by ", snaps), s, next)
		l := lies(t, next, 1)
		for _, x := range l {
			if !slices.Contains(mem, x) {
				t.Errorf("P15.3: seen by %v: the table has %s, which was not in the list", snaps, brief(x))
			}
		}
		// Of each key the last one, and what a snapshot sees.
		for _, n := range append(slices.Clone(snaps), 30) {
			for _, key := range []string{"a", "b", "c"} {
				i := slices.IndexFunc(mem, func(x api.Entry) bool { return x.Key == key && x.Seq <= n })
				if i >= 0 && !slices.Contains(l, mem[i]) {
					t.Errorf("P15.3: seen by %v: the table has not %s", snaps, brief(mem[i]))
				}
			}
		}
	}
}

// A key that is gone must stay so above an older table that has it.
func TestFlushOfWhatIsGone(t *testing.T) {
	s := made(9, []api.Entry{isnt("k0000", 8), isnt("k0001", 9)}, run{3, row(5, 1)})
	next := flushed(t, s)
	afterFlush(t, "two keys that are gone", s, next)
	if l := lies(t, next, 2); len(l) != 2 {
		t.Errorf("P15.3: Flush of two keys that are gone: the table has %s", brief(l))
	}
}

func TestFlushOfAFullList(t *testing.T) {
	s := made(4096, nil)
	s.Mem = filled(4096)
	s.Files = done(t, s.Files, []api.Act{{What: 2, Name: "l7", Data: many(1, 4096, 4096, map[string]string{})}, {What: 3, Name: "l7"}})
	afterFlush(t, "4096 versions", s, flushed(t, s))
}

// All old logs go, whatever their numbers.
func TestFlushRemovesTheOldLogs(t *testing.T) {
	for _, logs := range [][]string{{"l7"}, {"l7", "l3"}, {"l7", "l8", "l100"}, {"l1", "l7", "l2147483647"}, {"l1", "l2", "l3", "l7", "l2147483646", "l2147483647"}} {
		s := ground()
		for _, name := range logs[1:] {
			if name != "l7" {
				s.Files = done(t, s.Files, []api.Act{{What: 1, Name: name}, {What: 6}})
			}
		}
		if slices.Index(logs, "l7") > 0 {
			s.Files = done(t, s.Files, []api.Act{{What: 1, Name: logs[0]}, {What: 6}})
		}
		next := flushed(t, s)
		afterFlush(t, fmt.Sprint("the logs ", logs), s, next)
		if slices.Contains(logs, fmt.Sprint("l", next.Log)) {
			t.Errorf("P15.3: Flush with the logs %v: %d is no new one", logs, next.Log)
		}
	}
}

// A file that has the name of the next table is nobody's.
func TestFlushOverAFile(t *testing.T) {
	s := ground()
	s.Files = done(t, s.Files, []api.Act{{What: 1, Name: "t3"}, {What: 2, Name: "t3", Data: []byte("waste")}, {What: 6}})
	afterFlush(t, "a file in the way", s, flushed(t, s))
}

func flush(s State) (State, []api.Act, api.Errno) { return Flush(s) }

func TestFlushThatIsRefused(t *testing.T) {
	s := ground()
	s.Version.Next = lastID
	refuses(t, "Flush without a number for a table", s, api.ErrFull, flush)
	s = ground()
	s.Manifest = 4
	refuses(t, "Flush without its manifest", s, api.ErrNone, flush)
	s = ground()
	var tables []edit.Meta
	for i := range 256 {
		tables = append(tables, edit.Meta{ID: 256 - i, Level: 0, Count: 1, Low: "a", High: "a"})
	}
	s.Version = edit.Version{Tables: tables, Next: 300}
	refuses(t, "Flush to 256 tables", s, api.ErrFull, flush)
	s = ground()
	for i := range 256 - len(s.Files.Files) {
		s.Files = done(t, s.Files, []api.Act{{What: 1, Name: fmt.Sprint("x", i)}})
	}
	refuses(t, "Flush where 256 files are", s, api.ErrFull, flush)
	s.Files = done(t, s.Files, []api.Act{{What: 5, Name: "x0"}, {What: 6}})
	refuses(t, "Flush where 255 files are", s, api.ErrFull, flush)
	s.Files = done(t, s.Files, []api.Act{{What: 5, Name: "x1"}, {What: 6}})
	if next, _, e := Flush(s); e != api.OK {
		t.Errorf("P15.3: Flush where 254 files are: error %d", e)
	} else {
		sameTold(t, "254 files", s, next)
	}
}

// tight fails unless a call that adds to the files is refused with ErrFull up to some room, and does from there on what it does on a great disk.
func tight(t *testing.T, what string, s State, most int, call func(s State) (State, []api.Act, api.Errno)) {
	t.Helper()
	great, acts, e := call(s)
	if e != api.OK {
		t.Fatalf("P15.7: %s on a great disk: error %d", what, e)
	}
	fits := -1
	for more := range most {
		s.Files.Cap = used(s.Files) + more
		next, l, e := call(s)
		if e == api.OK {
			next.Files.Cap = great.Files.Cap
			if fits = max(fits, more); !same(next, great) || !sameActs(l, acts) {
				t.Errorf("P15.7: %s with room for %d does not what it does on a great disk", what, more)
			}
			continue
		}
		if fits >= 0 {
			t.Errorf("P15.7: %s with room for %d: error %d; there was room for less", what, more, e)
		}
		refuses(t, fmt.Sprint(what, " with room for ", more), s, api.ErrFull, call)
	}
	if fits < 0 {
		t.Errorf("P15.7: %s with room for %d has none", what, most)
	}
}

func TestFlushWithoutRoom(t *testing.T) {
	s := written(t, opened(t, disk()), some(20)...)
	tight(t, "Flush", s, 1000, flush)
	tight(t, "Flush", written(t, flushed(t, s), some(5)...), 500, flush)
}

// P15.3: Compact

func compact(s State) (State, []api.Act, api.Errno) {
	next, did, l, e := Compact(s)
	if did != (e == api.OK) {
		return State{Seq: 1}, nil, e
	}
	return next, l, e
}

func TestCompactWhereNoLevelIsFull(t *testing.T) {
	for what, s := range map[string]State{
		"an empty store": opened(t, disk()),
		"a list":         made(9, row(9, 1)),
		"three tables":   made(9, nil, run{0, row(3, 1)}, run{0, row(3, 4)}, run{0, row(3, 7)}),
		"128 on 1":       made(128, nil, run{1, row(128, 1)}),
		"512 on 2":       made(512, nil, run{2, row(512, 1)}),
		"many on 3":      made(4096, nil, run{3, row(4096, 1)}),
		"all":            made(5000, nil, run{0, row(3, 700)}, run{1, row(128, 600)}, run{2, row(512, 1)}, run{3, row(4000, 1)}),
		"no files":       {Files: files.State{Next: 1}, Version: edit.Version{Tables: []edit.Meta{{ID: 1, Count: 1, Low: "a", High: "a"}}, Next: 2}, Manifest: 1, Log: 1, Mem: skip.New()},
	} {
		s.Snaps = []int{0}
		if next, did, l, e := Compact(s); did || len(l) != 0 || e != api.OK || !same(next, s) {
			t.Errorf("P15.3: Compact, %s: %t, %d acts, error %d", what, did, len(l), e)
		}
	}
}

// afterCompact fails unless next is what a merge makes of s: the tables of these numbers are gone, and on that level are those that come; nothing else changes.
func afterCompact(t *testing.T, what string, s, next State, inputs []int, level int) []api.Entry {
	t.Helper()
	sound(t, what, next)
	sameTold(t, what, s, next)
	if next.Seq != s.Seq || !slices.Equal(next.Snaps, s.Snaps) || next.Manifest != s.Manifest || next.Log != s.Log || !sameList(next.Mem, s.Mem) || next.Version.Seq != s.Version.Seq {
		t.Errorf("P15.3: %s: the store is %s, it was %s", what, brief(next), brief(s))
	}
	old := func(m edit.Meta) bool { return m.ID < s.Version.Next }
	stay := slices.DeleteFunc(slices.Clone(s.Version.Tables), func(m edit.Meta) bool { return slices.Contains(inputs, m.ID) })
	if left := slices.DeleteFunc(slices.Clone(next.Version.Tables), func(m edit.Meta) bool { return !old(m) }); !slices.Equal(left, stay) {
		t.Errorf("P15.3: %s: of the old tables there are %s, want %s", what, brief(left), brief(stay))
	}
	var all []api.Entry
	for _, m := range slices.DeleteFunc(slices.Clone(next.Version.Tables), old) {
		if m.Level != level {
			t.Errorf("P15.3: %s: there comes the table %s; want level %d", what, brief(m), level)
		}
		all = append(all, lies(t, next, m.ID)...)
	}
	return all
}

func TestCompactOfLevelZero(t *testing.T) {
	a, b, c, d := []api.Entry{is("b", 1, "1"), is("d", 2, "2")}, []api.Entry{is("b", 3, "3"), is("c", 4, "4")}, []api.Entry{isnt("b", 5)}, []api.Entry{is("a", 6, "6"), isnt("d", 7)}
	low, other := []api.Entry{is("a", 0+8, "8"), is("bb", 9, "9")}, []api.Entry{is("e", 10, "10")}
	for what, x := range map[string]struct {
		tables []run
		snaps  []int
		inputs []int
		want   []api.Entry
	}{
		"at the bottom":            {[]run{{0, a}, {0, b}, {0, c}, {0, d}}, nil, []int{1, 2, 3, 4}, []api.Entry{is("a", 6, "6"), is("c", 4, "4")}},
		"seen at 2":                {[]run{{0, a}, {0, b}, {0, c}, {0, d}}, []int{2}, []int{1, 2, 3, 4}, []api.Entry{is("a", 6, "6"), isnt("b", 5), is("b", 1, "1"), is("c", 4, "4"), isnt("d", 7), is("d", 2, "2")}},
		"seen at 4 and 6":          {[]run{{0, a}, {0, b}, {0, c}, {0, d}}, []int{4, 6}, []int{1, 2, 3, 4}, []api.Entry{is("a", 6, "6"), isnt("b", 5), is("b", 3, "3"), is("c", 4, "4"), isnt("d", 7), is("d", 2, "2")}},
		"seen at 0":                {[]run{{0, a}, {0, b}, {0, c}, {0, d}}, []int{0}, []int{1, 2, 3, 4}, []api.Entry{is("a", 6, "6"), is("c", 4, "4")}},
		"above what it touches":    {[]run{{0, a}, {0, b}, {0, c}, {0, d}, {2, low}}, nil, []int{1, 2, 3, 4}, []api.Entry{is("a", 6, "6"), isnt("b", 5), is("c", 4, "4"), isnt("d", 7)}},
		"above what it misses":     {[]run{{0, a}, {0, b}, {0, c}, {0, d}, {3, other}}, nil, []int{1, 2, 3, 4}, []api.Entry{is("a", 6, "6"), is("c", 4, "4")}},
		"with one of level 1":      {[]run{{0, a}, {0, b}, {0, c}, {0, d}, {1, low}, {1, other}}, nil, []int{1, 2, 3, 4, 5}, []api.Entry{is("a", 8, "8"), is("bb", 9, "9"), is("c", 4, "4")}},
		"five, and none of 1":      {[]run{{0, a}, {0, b}, {0, c}, {0, d}, {0, low}, {1, other}}, nil, []int{1, 2, 3, 4, 5}, []api.Entry{is("a", 8, "8"), is("bb", 9, "9"), is("c", 4, "4")}},
		"nothing is left":          {[]run{{0, c}, {0, []api.Entry{isnt("z", 9)}}, {0, []api.Entry{isnt("b", 4)}}, {0, []api.Entry{is("b", 3, "x")}}}, nil, []int{1, 2, 3, 4}, nil},
		"nothing is left, one not": {[]run{{0, c}, {0, []api.Entry{isnt("z", 9)}}, {0, []api.Entry{isnt("b", 4)}}, {0, []api.Entry{is("b", 3, "x")}}, {2, []api.Entry{is("c", 1, "c")}}}, []int{9}, []int{1, 2, 3, 4}, []api.Entry{isnt("b", 5), isnt("z", 9)}},
	} {
		s := made(12, []api.Entry{is("d", 12, "12"), isnt("c", 11)}, x.tables...)
		s.Snaps = x.snaps
		next, did := compacted(t, s)
		if l := afterCompact(t, what, s, next, x.inputs, 1); !did || !slices.Equal(l, x.want) {
			t.Errorf("P15.3: Compact of level 0, %s: %t, %s; want %s", what, did, brief(l), brief(x.want))
		}
	}
}

func TestCompactOfOtherLevels(t *testing.T) {
	for what, x := range map[string]struct {
		tables []run
		inputs []int
		level  int
		want   int
	}{
		"129 on 1":                     {[]run{{1, row(129, 1)}}, []int{1}, 2, 129},
		"129 on 1, in two":             {[]run{{1, row(130, 1)[:64]}, {1, row(130, 1)[65:]}}, []int{2}, 2, 65},
		"129 on 1, the first of two":   {[]run{{1, row(140, 1)[:70]}, {1, row(140, 1)[70:]}}, []int{1}, 2, 70},
		"513 on 2":                     {[]run{{2, row(513, 1)}, {1, row(128, 600)}}, []int{1}, 3, 513},
		"513 on 2, and some on 3":      {[]run{{2, row(513, 1000)}, {3, row(100, 1)}, {3, []api.Entry{is("z", 2, "")}}}, []int{1, 2}, 3, 513},
		"1 ahead of 2":                 {[]run{{2, row(600, 1000)}, {1, row(200, 2000)}}, []int{2, 1}, 2, 600},
		"0 ahead of 1":                 {[]run{{1, row(200, 2000)}, {0, row(1, 1)}, {0, row(1, 2)}, {0, row(1, 3)}, {0, row(1, 4)}}, []int{2, 3, 4, 5, 1}, 1, 200},
		"129 on 1, into one of 2":      {[]run{{1, row(129, 200)}, {2, row(10, 1)}, {2, []api.Entry{is("k9", 500, "")}}}, []int{1, 2}, 2, 129},
		"129 on 1, two on 2 beside it": {[]run{{1, row(129, 200)}, {2, []api.Entry{is("a", 1, "")}}, {2, []api.Entry{is("z", 2, "")}}}, []int{1}, 2, 129},
	} {
		s := made(5000, []api.Entry{is("k0000", 5000, "new")}, x.tables...)
		next, did := compacted(t, s)
		if l := afterCompact(t, what, s, next, x.inputs, x.level); !did || len(l) != x.want {
			t.Errorf("P15.3: Compact, %s: %t, %d versions; want %d", what, did, len(l), x.want)
		}
	}
}

// Tables of one level never have a key in common, however many versions a key has.
func TestCompactCutsBetweenKeys(t *testing.T) {
	// Seen by 16 snapshots, 17 versions of each key stay; the first key has fewer, so that the cut would come elsewhere within the versions of one.
	for _, first := range []int{1, 2, 9, 16} {
		var snaps []int
		for i := range 16 {
			snaps = append(snaps, (i+1)*500)
		}
		var all []api.Entry
		seq := 0
		for round := range 17 {
			for i := range 500 {
				seq++
				if i > 0 || round < first {
					all = append(all, is(fmt.Sprintf("k%04d", i), seq, fmt.Sprint(round)))
				}
			}
		}
		var tables []run
		for part := range slices.Chunk(all, 2200) {
			slices.SortFunc(part, order)
			tables = append(tables, run{0, part})
		}
		s := made(8500, nil, tables...)
		s.Snaps = snaps
		next, did := compacted(t, s)
		l := afterCompact(t, "17 versions of each key", s, next, []int{1, 2, 3, 4}, 1)
		if !did || len(l) != len(all) || levelsOf(next) != [4]int{0, 3} {
			t.Errorf("P15.3: Compact of %d versions: %t, %d versions, tables on the levels %v", len(all), did, len(l), levelsOf(next))
		}
	}
}

func TestCompactAgainAndAgain(t *testing.T) {
	s := opened(t, disk())
	m := map[string]string{}
	for i := range 60 {
		var l []api.Change
		for k := range 40 {
			c := set(fmt.Sprintf("k%04d", (i*37+k*11)%900), fmt.Sprint(i))
			m[c.Key] = c.Value
			l = append(l, c)
		}
		s = flushed(t, written(t, s, l...))
		if i%20 == 7 {
			s = snapped(t, s)
		}
		if i%9 == 8 {
			next, n := merged(t, s)
			sound(t, fmt.Sprint("merged ", i), next)
			sameTold(t, fmt.Sprint("merged ", i), s, next)
			if n == 0 || levelsOf(next)[0] > 3 {
				t.Errorf("P15.3: Compact tells true %d times, tables on the levels %v", n, levelsOf(next))
			}
			s = next
		}
	}
	s, _ = merged(t, s)
	tells(t, "merged again and again", s, s.Seq, pairsOf(m))
	if n := levelsOf(s); n[3] == 0 {
		t.Errorf("P15.3: tables on the levels %v: none came to the bottom", n)
	}
	opensTo(t, "merged again and again", s.Files, s.Seq, pairsOf(m))
}

// What is in the list alone must be in the log's reach behind a merge.
func TestCompactLeavesTheLog(t *testing.T) {
	s := opened(t, disk())
	for i := range 4 {
		s = flushed(t, written(t, s, set("a", fmt.Sprint(i))))
	}
	s = written(t, s, set("a", "last"), set("b", "too"))
	s, did := compacted(t, s)
	if !did || s.Version.Seq != 4 || len(s.Mem.Nodes) != 2 {
		t.Errorf("P15.3: Compact: %t, the tables' last number is %d, the list has %d", did, s.Version.Seq, len(s.Mem.Nodes))
	}
	c, _ := files.Crash(s.Files, nil)
	opensTo(t, "a merge with a list", c, 6, []api.Pair{{Key: "a", Value: "last"}, {Key: "b", Value: "too"}})
}

func TestCompactThatIsRefused(t *testing.T) {
	full := made(4, nil, run{0, row(1, 1)}, run{0, row(1, 2)}, run{0, row(1, 3)}, run{0, row(1, 4)}, run{3, []api.Entry{is("z", 1, "")}})
	change := func(do func(s *State)) State {
		s := copied(full)
		do(&s)
		return s
	}
	octetsAt := func(s *State, id int) *files.File { return &s.Files.Files[id-1] }
	refuses(t, "Compact of a table that is turned", change(func(s *State) { octetsAt(s, 2).Data[3] ^= 1 }), api.ErrCorrupt, compact)
	refuses(t, "Compact of a table that is empty", change(func(s *State) { *octetsAt(s, 4) = files.File{ID: 4} }), api.ErrCorrupt, compact)
	refuses(t, "Compact of a table that is not there", change(func(s *State) {
		s.Files = done(t, s.Files, []api.Act{{What: 5, Name: "t1"}})
	}), api.ErrCorrupt, compact)
	refuses(t, "Compact of a table with other keys", change(func(s *State) {
		*octetsAt(s, 1) = files.File{ID: 1, Data: octetsOf(is("zz", 1, ""))}
	}), api.ErrCorrupt, compact)
	refuses(t, "Compact of a table with lower keys", change(func(s *State) {
		*octetsAt(s, 1) = files.File{ID: 1, Data: octetsOf(is("a", 9, ""), row(1, 1)[0])}
	}), api.ErrCorrupt, compact)
	refuses(t, "Compact of a version twice", change(func(s *State) { octetsAt(s, 2).Data = octetsOf(row(1, 1)...) }), api.ErrTwice, compact)
	refuses(t, "Compact without its manifest", change(func(s *State) { s.Manifest = 9 }), api.ErrNone, compact)
	refuses(t, "Compact without a number for a table", change(func(s *State) { s.Version.Next = lastID }), api.ErrFull, compact)
	var many []run
	for i := range 65 {
		many = append(many, run{0, row(1, i+1)})
	}
	refuses(t, "Compact of 65 tables", made(65, nil, many...), api.ErrCount, compact)
	if next, did, _, e := Compact(made(64, nil, many[:64]...)); !did || e != api.OK || levelsOf(next) != [4]int{0, 1} {
		t.Errorf("P15.3: Compact of 64 tables: %t, error %d", did, e)
	}
	var great []run
	for i := range 17 {
		great = append(great, run{0, row(3856, i*3856+1)})
	}
	refuses(t, "Compact of 65552 versions", made(17*3856, nil, great...), api.ErrCount, compact)
	great[16].l = great[16].l[:3840]
	if next, did, _, e := Compact(made(17*3856, nil, great...)); !did || e != api.OK || levelsOf(next) != [4]int{0, 1} {
		t.Errorf("P15.3: Compact of 65536 versions: %t, error %d", did, e)
	}
}

// A table that is not among what is merged is not in the way.
func TestCompactBesideATable(t *testing.T) {
	s := made(9, nil, run{0, row(1, 1)}, run{0, row(1, 2)}, run{0, row(1, 3)}, run{0, row(1, 4)}, run{3, []api.Entry{is("z", 1, "")}})
	s.Files.Files[4].Data[0]++
	if next, did, _, e := Compact(s); !did || e != api.OK || levelsOf(next) != [4]int{0, 1, 0, 1} {
		t.Errorf("P15.3: Compact beside a table that is turned: %t, error %d", did, e)
	}
}

func TestCompactOverAFile(t *testing.T) {
	s := made(4, nil, run{0, row(1, 1)}, run{0, row(1, 2)}, run{0, row(1, 3)}, run{0, row(1, 4)})
	s.Files = done(t, s.Files, []api.Act{{What: 1, Name: "t5"}, {What: 2, Name: "t5", Data: []byte("waste")}, {What: 6}})
	next, did := compacted(t, s)
	if l := afterCompact(t, "a file in the way", s, next, []int{1, 2, 3, 4}, 1); !did || len(l) != 1 {
		t.Errorf("P15.3: Compact over a file: %t, %s", did, brief(l))
	}
}

func TestCompactWithoutRoom(t *testing.T) {
	s := opened(t, disk())
	for i := range 4 {
		s = flushed(t, written(t, s, some(3+i)...))
	}
	tight(t, "Compact", s, 600, compact)
	tight(t, "Compact with a list", written(t, s, some(3)...), 600, compact)
}
