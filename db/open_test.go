package db

import (
	"fmt"
	"maps"
	"math"
	"math/rand"
	"slices"
	"strings"
	"testing"

	"tickler/api"
	"tickler/edit"
	"tickler/files"
	"tickler/manifest"
	"tickler/table"
)

// opensTo fails unless Open makes a sound store of the files, with just these pairs at that number; it answers it.
func opensTo(t *testing.T, what string, f files.State, seq int, want []api.Pair) State {
	t.Helper()
	s := opened(t, f)
	sound(t, what, s)
	if s.Seq != seq || s.Version.Seq != seq {
		t.Errorf("P15.1: %s: Seq is %d, of the tables %d; want %d", what, s.Seq, s.Version.Seq, seq)
	}
	if len(s.Mem.Nodes) != 0 || len(s.Mem.Head) != 8 || len(s.Snaps) != 0 {
		t.Errorf("P15.1: %s: the store has a list of %d, the snapshots %v; want none", what, len(s.Mem.Nodes), s.Snaps)
	}
	if b := octets(s.Files, fmt.Sprint("l", s.Log)); len(b) != 0 {
		t.Errorf("P15.1: %s: the new log has %d octets", what, len(b))
	}
	tells(t, what, s, s.Seq, want)
	return s
}

// refusesFiles fails unless Open refuses the files so.
func refusesFiles(t *testing.T, what string, f files.State, want api.Errno) {
	t.Helper()
	if s, l, e := Open(f); e != want || !same(s, State{}) || len(l) != 0 {
		t.Errorf("P15.1: Open, %s: error %d, %d acts; want error %d", what, e, len(l), want)
	}
}

// version: the one that all tests of Open with tables take, and its files: t3 and t5 of what lasts up to number 6.
func version() (edit.Version, []entry) {
	newer, older := []api.Entry{is("a", 6, "A"), isnt("b", 5)}, []api.Entry{is("a", 1, "o"), is("b", 2, "p"), is("c", 3, "C")}
	v := edit.Version{Tables: []edit.Meta{meta(5, 0, newer...), meta(3, 2, older...)}, Seq: 6, Next: 6}
	return v, []entry{of("t3", octetsOf(older...)), of("t5", octetsOf(newer...)), of("m4", whole(v)), of("CURRENT", current(4))}
}

// inVersion: what the version has.
func inVersion(more ...string) []api.Pair {
	m := map[string]string{"a": "A", "c": "C"}
	for i := 0; i < len(more); i += 2 {
		m[more[i]] = more[i+1]
	}
	return pairsOf(m)
}

// P15.1: Open

func TestOpenOfNoFiles(t *testing.T) {
	for what, f := range map[string]files.State{
		"no files":    {Cap: room, Next: 1},
		"empty lists": {Cap: room, Files: []files.File{}, Names: []files.Name{}, Safe: []files.Name{}, Next: 77},
	} {
		s := opensTo(t, what, f, 0, nil)
		if !sameVersion(s.Version, edit.New()) {
			t.Errorf("P15.1: Open of %s: the version is %s", what, brief(s.Version))
		}
	}
}

func TestOpenOfFilesThatMayNotBe(t *testing.T) {
	_, l := version()
	for what, do := range map[string]func(f *files.State){
		"Cap":       func(f *files.State) { f.Cap = -1 },
		"Next":      func(f *files.State) { f.Next = 0 },
		"no room":   func(f *files.State) { f.Cap = 6 },
		"Synced":    func(f *files.State) { f.Files[0].Synced = -1 },
		"two names": func(f *files.State) { f.Names[1].ID = f.Names[0].ID },
		"no CURRENT too": func(f *files.State) {
			f.Names, f.Safe = nil, nil
		},
	} {
		for where, f := range map[string]files.State{"a store": disk(l...), "without its tables": disk(l[2:]...), "without its manifest": disk(l[3], of("x"))} {
			do(&f)
			refusesFiles(t, what+", "+where, f, api.ErrState)
		}
	}
	refusesFiles(t, "nothing", files.State{}, api.ErrState)
}

// unloadable: what chapter 14 refuses, each with its error: what CURRENT and the manifest have.
func unloadable() map[string]struct {
	l    []entry
	want api.Errno
} {
	v, _ := version()
	type file = struct {
		l    []entry
		want api.Errno
	}
	all := map[string]file{}
	for what, b := range map[string][]byte{
		"empty": nil, "cut off": current(4)[:5], "a tail": append(current(4), 0), "turned": append(current(4)[:6], 7),
		"another kind": record(5, []byte{4}), "no number": record(4, nil), "two numbers": record(4, []byte{4, 4}),
		"a long number": record(4, []byte{0x80, 4}), "the number 0": current(0), "a number above all": current(lastID + 1), "a number far above all": current(math.MaxUint64),
	} {
		all["CURRENT: "+what] = file{[]entry{of("CURRENT", b), of("m4", whole(v))}, api.ErrCorrupt}
	}
	all["no such manifest"] = file{[]entry{of("CURRENT", current(4)), of("m5", whole(v))}, api.ErrNone}
	all["a manifest that is gone"] = file{[]entry{of("CURRENT", current(4)), {name: "m4", data: whole(v), lost: true}}, api.ErrNone}
	for what, b := range map[string][]byte{
		"empty": nil, "cut off": whole(v)[:9], "another kind": record(4, []byte{0, 1, 0, 0}), "no edit": record(5, []byte{1}),
		"an edit that does not fit":     edits(edit.Edit{Drop: []int{1}, Seq: 6, Next: 6}),
		"a second one, of another kind": append(whole(v), record(1, nil)...), "a second one that does not fit": append(whole(v), edits(edit.Edit{Seq: 5, Next: 6})...),
	} {
		all["manifest: "+what] = file{[]entry{of("CURRENT", current(4)), of("m4", b)}, api.ErrCorrupt}
	}
	return all
}

func TestOpenOfManifestsThatAreNotLoaded(t *testing.T) {
	_, tables := version()
	for what, c := range unloadable() {
		f := disk(append(c.l, of("l1", batches(7, []api.Change{set("x", "y")})))...)
		if _, _, e := manifest.Load(f); e != c.want {
			t.Fatalf("manifest.Load, %s: error %d, want %d", what, e, c.want)
		}
		refusesFiles(t, what, f, c.want)
		refusesFiles(t, what+", with tables", disk(append(c.l, tables[:2]...)...), c.want)
		f = disk(c.l...)
		f.Cap = 0
		for _, x := range f.Files {
			f.Cap += len(x.Data)
		}
		refusesFiles(t, what+", without room", f, c.want)
	}
}

func TestOpenOfTablesThatAreNotThere(t *testing.T) {
	_, l := version()
	good := l[0].data
	for i, other := range []int{1, 0} {
		rest := []entry{l[other], l[2], l[3], of("l2", batches(7, []api.Change{set("x", "y")}))}
		bad := l[i]
		for what, b := range map[string][]byte{
			"empty": nil, "cut off": bad.data[:len(bad.data)-1], "a tail": append(slices.Clone(bad.data), 0),
			"another mark": append(slices.Clone(good[:len(good)-20]), make([]byte, 20)...), "short": []byte("a text of 19 octets"),
		} {
			if _, e := table.Open(b); e == api.OK {
				t.Fatalf("table.Open takes a table that is %s", what)
			}
			f := disk(append(rest, of(bad.name, b))...)
			refusesFiles(t, bad.name+" is "+what, f, api.ErrCorrupt)
			f.Cap = 0
			for _, x := range f.Files {
				f.Cap += len(x.Data)
			}
			refusesFiles(t, bad.name+" is "+what+", without room", f, api.ErrCorrupt)
		}
		turned := slices.Clone(bad.data)
		for at := range turned {
			turned[at] ^= 4
			refusesFiles(t, fmt.Sprint(bad.name, " is turned at ", at), disk(append(rest, of(bad.name, turned))...), api.ErrCorrupt)
			turned[at] ^= 4
		}
		refusesFiles(t, bad.name+" is not there", disk(rest...), api.ErrCorrupt)
		refusesFiles(t, bad.name+" is gone", disk(append(rest, entry{name: bad.name, data: bad.data, lost: true})...), api.ErrCorrupt)
		opensTo(t, bad.name+" does not last", disk(append(rest, entry{name: bad.name, data: bad.data, fresh: true, loose: 9})...), 7, inVersion("x", "y"))
	}
}

func TestOpenOfAStore(t *testing.T) {
	v, l := version()
	s := opensTo(t, "tables alone", disk(l...), 6, inVersion())
	if !sameVersion(s.Version, v) {
		t.Errorf("P15.1: Open: the version is %s, want %s", brief(s.Version), brief(v))
	}
	if s.Manifest == 4 || !has(s.Files, fmt.Sprint("m", s.Manifest)) {
		t.Errorf("P15.1: Open begins no new manifest: %d", s.Manifest)
	}
	if got, id, e := manifest.Load(s.Files); e != api.OK || id != s.Manifest || !sameVersion(got, v) {
		t.Errorf("P15.1: Open's manifest: %s, %d, error %d", brief(got), id, e)
	}
}

func TestOpenOfLogsAlone(t *testing.T) {
	changes := []api.Change{set("b", "x"), set("a", "y"), gone("b"), set("c", "")}
	want := []api.Pair{{Key: "a", Value: "y"}, {Key: "c"}}
	for _, name := range []string{"l1", "l2", "l77", "l2147483647"} {
		s := opensTo(t, name, disk(of(name, batches(1, changes))), 4, want)
		if n := levelsOf(s); n != [4]int{1} || s.Version.Tables[0] != (edit.Meta{ID: 1, Level: 0, Count: 4, Low: "a", High: "c"}) || s.Version.Next != 2 {
			t.Errorf("P15.1: Open of %s: the tables %s", name, brief(s.Version))
		}
		for seq, p := range [][]api.Pair{nil, {{Key: "b", Value: "x"}}, {{Key: "a", Value: "y"}, {Key: "b", Value: "x"}}, {{Key: "a", Value: "y"}}, want} {
			tells(t, name, s, seq, p)
		}
	}
	for _, name := range []string{"l0", "l01", "l", "L1", "log", "l2147483648", "m1", "t1", "x"} {
		opensTo(t, name+", which is no log", disk(of(name, batches(1, changes))), 0, nil)
	}
	opensTo(t, "a log that is gone", disk(entry{name: "l1", data: batches(1, changes), lost: true}), 0, nil)
	opensTo(t, "a log that does not last", disk(entry{name: "l1", data: batches(1, changes), fresh: true, loose: 12}), 4, want)
	opensTo(t, "an empty log", disk(of("l1")), 0, nil)
}

func TestOpenWithALog(t *testing.T) {
	_, l := version()
	one, two := []api.Change{set("b", "7"), gone("a")}, []api.Change{set("c", "9")}
	for what, c := range map[string]struct {
		log  []byte
		seq  int
		more []api.Pair
	}{
		"just behind":           {batches(7, one, two), 9, pairsOf(map[string]string{"b": "7", "c": "9"})},
		"one behind":            {batches(7, one), 8, pairsOf(map[string]string{"b": "7", "c": "C"})},
		"ahead of it":           {batches(8, one, two), 6, inVersion()},
		"far ahead of it":       {batches(1<<39, one, two), 6, inVersion()},
		"a batch that has it":   {batches(6, one, two), 6, inVersion()},
		"long had":              {batches(1, one, two), 6, inVersion()},
		"had up to the last":    {batches(5, one), 6, inVersion()},
		"had, and behind":       {batches(5, one, one), 8, pairsOf(map[string]string{"b": "7", "c": "C"})},
		"had, and two behind":   {batches(4, one, two, one, two), 9, pairsOf(map[string]string{"b": "7", "c": "9"})},
		"no batch":              {[]byte("\x03\x01no batch"), 6, inVersion()},
		"empty":                 {nil, 6, inVersion()},
		"a record ahead of it":  {append(record(2, nil), batches(7, one)...), 6, inVersion()},
		"a gap":                 {append(batches(7, two), batches(9, one)...), 7, inVersion("c", "9")},
		"the same once more":    {append(batches(7, two), batches(7, two)...), 7, inVersion("c", "9")},
		"a torn one behind":     {append(batches(7, two), batches(8, one)[:12]...), 7, inVersion("c", "9")},
		"a torn one":            {batches(7, two)[:11], 6, inVersion()},
		"a turned one, and one": {append(append(batches(7, two)[:12], 0), batches(8, one)...), 6, inVersion()},
	} {
		opensTo(t, what, disk(append(l, of("l3", c.log))...), c.seq, c.more)
	}
}

func TestOpenOfSeveralLogs(t *testing.T) {
	_, l := version()
	a, b, c := batches(7, []api.Change{set("x", "7")}), batches(8, []api.Change{set("x", "8"), set("y", "9")}), batches(10, []api.Change{gone("x")})
	other := batches(7, []api.Change{set("x", "other"), set("z", "other")})
	for what, x := range map[string]struct {
		logs []entry
		seq  int
		want []api.Pair
	}{
		"in order":                       {[]entry{of("l1", a), of("l2", b), of("l3", c)}, 10, inVersion("y", "9")},
		"by number, not by name":         {[]entry{of("l9", a), of("l10", b), of("l101", c)}, 10, inVersion("y", "9")},
		"by number, not by their places": {[]entry{of("l101", c), of("l10", b), of("l9", a)}, 10, inVersion("y", "9")},
		"out of order":                   {[]entry{of("l1", b), of("l2", a)}, 7, inVersion("x", "7")},
		"out of order, and once more":    {[]entry{of("l1", b), of("l2", a), of("l3", b)}, 9, inVersion("x", "8", "y", "9")},
		"falling":                        {[]entry{of("l1", c), of("l2", b), of("l3", a)}, 7, inVersion("x", "7")},
		"one twice":                      {[]entry{of("l1", a), of("l2", a), of("l3", b)}, 9, inVersion("x", "8", "y", "9")},
		"the first one counts":           {[]entry{of("l1", other), of("l2", a), of("l3", b)}, 8, inVersion("x", "other", "z", "other")},
		"one is torn":                    {[]entry{of("l1", a), of("l2", b[:15]), of("l3", c)}, 7, inVersion("x", "7")},
		"one is torn, and told again":    {[]entry{of("l1", a), of("l2", b[:15]), of("l3", b), of("l4", c)}, 10, inVersion("y", "9")},
		"two are empty":                  {[]entry{of("l1"), of("l2", a), of("l5"), of("l6", b)}, 9, inVersion("x", "8", "y", "9")},
		"one goes over two":              {[]entry{of("l1", a), of("l2", slices.Concat(a, b, c))}, 10, inVersion("y", "9")},
		"one begins ahead":               {[]entry{of("l1", slices.Concat(b, c)), of("l2", slices.Concat(a, b))}, 9, inVersion("x", "8", "y", "9")},
		"the highest number":             {[]entry{of("l2147483647", b), of("l2147483646", a)}, 9, inVersion("x", "8", "y", "9")},
	} {
		s := opensTo(t, what, disk(append(l, x.logs...)...), x.seq, x.want)
		if slices.ContainsFunc(x.logs, func(f entry) bool { return f.name == fmt.Sprint("l", s.Log) }) && s.Log != 1 {
			t.Errorf("P15.1: %s: the log %d is no new one", what, s.Log)
		}
	}
}

func TestOpenOfALogThatIsCutOffAnywhere(t *testing.T) {
	_, l := version()
	var log []byte
	ends := map[int]int{0: 6}
	m := map[string]string{"a": "A", "c": "C"}
	want := map[int][]api.Pair{6: pairsOf(m)}
	seq := 6
	for i := range 6 {
		changes := []api.Change{set(fmt.Sprint("k", i), strings.Repeat("v", i*9)), gone("a"), set("c", fmt.Sprint(i))}[:i%3+1]
		log = append(log, batches(seq+1, changes)...)
		seq += len(changes)
		for _, c := range changes {
			if c.Del {
				delete(m, c.Key)
			} else {
				m[c.Key] = c.Value
			}
		}
		ends[len(log)], want[seq] = seq, pairsOf(m)
	}
	at := 6
	for n := range len(log) + 1 {
		if end, ok := ends[n]; ok {
			at = end
		}
		opensTo(t, fmt.Sprint("a log cut off behind ", n), disk(append(l, of("l3", log[:n]))...), at, want[at])
	}
	if at != seq {
		t.Fatalf("the log goes to %d, not to %d", seq, at)
	}
}

// many: a log of n versions from a number on, of keys that come again and again, in batches of up to 64; and what it makes of a map.
func many(seq, n, keys int, m map[string]string) []byte {
	var l [][]api.Change
	for i := range n {
		if i%64 == 0 {
			l = append(l, nil)
		}
		c := set(fmt.Sprintf("k%04d", i*7%keys), fmt.Sprint(seq+i))
		if i%11 == 5 {
			c = gone(c.Key)
			delete(m, c.Key)
		} else {
			m[c.Key] = c.Value
		}
		l[len(l)-1] = append(l[len(l)-1], c)
	}
	return batches(seq, l...)
}

func TestOpenOfManyVersions(t *testing.T) {
	for _, c := range []struct{ n, keys, tables int }{{4095, 100, 1}, {4096, 100, 1}, {4097, 100, 2}, {8192, 1, 2}, {8193, 999, 3}, {9000, 1, 3}} {
		m := map[string]string{}
		b := many(1, c.n, c.keys, m)
		s := opensTo(t, fmt.Sprint(c.n, " versions of ", c.keys), disk(of("l1", b[:len(b)/3]), of("l2", b)), c.n, pairsOf(m))
		if n := levelsOf(s); n != [4]int{c.tables} || s.Version.Next != c.tables+1 {
			t.Errorf("P15.1: Open of %d versions: tables on the levels: %v, next %d; want %d", c.n, n, s.Version.Next, c.tables)
		}
		count := 0
		for _, x := range s.Version.Tables {
			count += x.Count
		}
		if count != c.n {
			t.Errorf("P15.1: Open of %d versions: %d lie in tables", c.n, count)
		}
		past := map[string]string{}
		many(1, 4000, c.keys, past)
		tells(t, "many versions", s, 4000, pairsOf(past))
	}
	_, l := version()
	m := map[string]string{"a": "A", "c": "C"}
	s := opensTo(t, "tables, and many versions", disk(append(l, of("l1", many(7, 5000, 300, m)))...), 5006, pairsOf(m))
	if n := levelsOf(s); n != [4]int{3, 0, 1, 0} || s.Version.Next != 8 {
		t.Errorf("P15.1: Open of tables and many versions: tables on the levels: %v, next %d", n, s.Version.Next)
	}
}

func TestOpenRemovesWhatNobodyNeeds(t *testing.T) {
	_, l := version()
	for what, more := range map[string][]entry{
		"tables":      {of("t1", []byte("no table")), of("t4"), of("t6", octetsOf(is("a", 9, "never"))), of("t7"), of("t2147483647")},
		"manifests":   {of("m1"), of("m3", []byte("old")), of("m5", []byte("torn")), of("m6"), of("m2147483647")},
		"logs":        {of("l1"), of("l3", []byte("torn")), of("l2147483647", batches(3, []api.Change{set("a", "old")}))},
		"next":        {of("next", current(5))},
		"other names": {of("x"), of("l01"), of("t03", []byte("x")), of("m04"), of("!"), of("~"), of("current"), of("CURRENT.old")},
		"lost names":  {{name: "m5", lost: true}, {name: "l8", data: batches(7, []api.Change{set("a", "lost")}), lost: true}, {name: "t6", lost: true}},
		"all":         {of("t1"), of("t6"), of("m3"), of("m5"), of("l1"), of("next"), of("x"), {name: "y", fresh: true}, {name: "z", lost: true}},
	} {
		opensTo(t, what, disk(append(more, l...)...), 6, inVersion())
		opensTo(t, what+", and a log", disk(append(append(more, l...), of("l4", batches(7, []api.Change{set("b", "B")})))...), 7, inVersion("b", "B"))
		begun := slices.DeleteFunc(slices.Clone(more), func(x entry) bool { return x.name[0] == 'l' })
		opensTo(t, what+", without CURRENT", disk(begun...), 0, nil)
	}
}

// Of many files none is left that takes the place of one that is needed.
func TestOpenWhereManyFilesAre(t *testing.T) {
	_, l := version()
	for n := 240; n <= 252; n++ {
		more := slices.Clone(l)
		for i := range n {
			more = append(more, of(fmt.Sprint("x", i)))
		}
		opensTo(t, fmt.Sprint(n, " files too many"), disk(more...), 6, inVersion())
	}
	empty, full := slices.Clone(l), slices.Clone(l)
	for i := range 252 {
		empty = append(empty, of(fmt.Sprint("l", i+1)))
		full = append(full, of(fmt.Sprint("l", i+1), batches(7+i, []api.Change{set("a", "A")})))
	}
	opensTo(t, "252 empty logs", disk(empty...), 6, inVersion())
	refusesFiles(t, "252 logs", disk(full...), api.ErrFull)
	// Room for a table, a log, a manifest and what becomes CURRENT.
	opensTo(t, "248 logs", disk(full[:252]...), 6+248, inVersion())
	refusesFiles(t, "249 logs", disk(full[:253]...), api.ErrFull)
}

func TestOpenAtTheHighestNumbers(t *testing.T) {
	v, l := version()
	for what, c := range map[string]struct {
		l   []entry
		seq int
	}{
		"a manifest": {append(l[:2:2], of("m2147483647", whole(v)), of("CURRENT", current(lastID))), 6},
		"a log":      {append(l[:4:4], of("l2147483647", batches(7, []api.Change{set("a", "A")}))), 7},
		"all": {append(l[:2:2], of("m2147483647", whole(v)), of("CURRENT", current(lastID)), of("m1"), of("m2"), of("l1"), of("l2"),
			of("l2147483647", batches(7, []api.Change{set("a", "A")}))), 7},
	} {
		s := opensTo(t, "the highest number of "+what, disk(c.l...), c.seq, inVersion())
		s = written(t, s, set("a", "x"))
		s = flushed(t, s)
		sound(t, "the highest number of "+what, s)
		opensTo(t, "behind the highest number of "+what, s.Files, c.seq+1, inVersion("a", "x"))
	}
}

// The number of a table that is the highest of all can not be followed by one that is next.
func TestOpenWithoutANumberForATable(t *testing.T) {
	v, l := version()
	v.Next = lastID
	full := append(l[:2:2], of("m4", whole(v)), of("CURRENT", current(4)))
	opensTo(t, "no number for a table", disk(full...), 6, inVersion())
	refusesFiles(t, "no number for a table that is wanted", disk(append(full, of("l1", batches(7, []api.Change{set("a", "x")})))...), api.ErrFull)
	refusesFiles(t, "no number for two tables", disk(append(full, of("l1", many(7, 5000, 9, map[string]string{})))...), api.ErrFull)
	v.Next = lastID - 1
	full[2] = of("m4", whole(v))
	s := opensTo(t, "a last number for a table", disk(append(full, of("l1", batches(7, []api.Change{set("a", "x")})))...), 7, inVersion("a", "x"))
	refuses(t, "Flush without a number", written(t, s, set("b", "y")), api.ErrFull, func(s State) (State, []api.Act, api.Errno) { return Flush(s) })
}

// refuses fails unless the call refuses so, with nothing beside it, and the store that was handed in is as it was.
func refuses(t *testing.T, what string, s State, want api.Errno, call func(s State) (State, []api.Act, api.Errno)) {
	t.Helper()
	was := copied(s)
	if next, l, e := call(s); e != want || !same(next, State{}) || len(l) != 0 {
		t.Errorf("P15.7: %s: error %d, %d acts; want error %d", what, e, len(l), want)
	}
	if !same(s, was) {
		t.Errorf("P15.7: %s: the refused call changes the store", what)
	}
}

func TestOpenOnceMore(t *testing.T) {
	_, l := version()
	f := disk(append(l, of("l3", batches(7, []api.Change{set("b", "B")})))...)
	s := opensTo(t, "at first", f, 7, inVersion("b", "B"))
	for i := range 5 {
		c, _ := files.Crash(s.Files, nil)
		next := opensTo(t, fmt.Sprint("once more ", i), c, 7, inVersion("b", "B"))
		if !sameVersion(next.Version, s.Version) || next.Manifest == s.Manifest {
			t.Errorf("P15.1: Open once more: the version %s, the manifest %d; they were %s, %d", brief(next.Version), next.Manifest, brief(s.Version), s.Manifest)
		}
		s = next
	}
}

// used: how many octets all files have together.
func used(f files.State) int {
	n := 0
	for _, x := range f.Files {
		n += len(x.Data)
	}
	return n
}

// P15.7: where the disk has no room, Open tells ErrFull; where it has, Open does what it does on a great disk.
func TestOpenWithoutRoom(t *testing.T) {
	_, l := version()
	for what, f := range map[string]files.State{
		"no files":  disk(),
		"tables":    disk(l...),
		"a log":     disk(append(l, of("l3", batches(7, []api.Change{set("b", "B"), set("d", "D")})))...),
		"and waste": disk(append(l, of("t9", make([]byte, 500)), of("l3", batches(7, []api.Change{set("b", "B"), set("d", "D")})))...),
	} {
		great := opened(t, f)
		great.Files.Cap = 0
		fits := false
		for cap := used(f); cap < used(f)+1000; cap++ {
			tight := f
			tight.Cap = cap
			s, l, e := Open(tight)
			s.Files.Cap = 0
			if e == api.OK && same(s, great) {
				fits = true
			} else if e != api.ErrFull || fits || !same(s, State{Files: files.State{}}) || len(l) != 0 {
				t.Errorf("P15.7: Open of %s with room for %d more: error %d", what, cap-used(f), e)
			}
		}
		if !fits {
			t.Errorf("P15.7: Open of %s has no room with 1000 octets more", what)
		}
	}
}

// Waste that a crash left is not in the way of what is needed.
func TestOpenTakesTheRoomOfWaste(t *testing.T) {
	_, l := version()
	log := of("l3", batches(7, []api.Change{set("b", "B"), set("d", strings.Repeat("D", 300))}))
	f := disk(append(l, log)...)
	least := used(f)
	for ; ; least++ {
		f.Cap = least
		if _, _, e := Open(f); e == api.OK {
			break
		}
	}
	f = disk(append(l, log, of("t6", make([]byte, 300)), of("m5", make([]byte, 100)), of("next", current(5)))...)
	f.Cap = max(least, used(f))
	opensTo(t, "waste", f, 8, inVersion("b", "B", "d", strings.Repeat("D", 300)))
}

// Drawn logs, behind a version or without one, against a model of its own.
func TestOpenOfDrawnLogs(t *testing.T) {
	_, tables := version()
	for seed := range int64(300) {
		r := rand.New(rand.NewSource(seed))
		var l []entry
		m, seq := map[string]string{}, 0
		if seed%2 == 0 {
			l, m, seq = slices.Clone(tables), map[string]string{"a": "A", "c": "C"}, 6
		}
		ids := r.Perm(12)[:r.Intn(6)]
		slices.Sort(ids)
		for _, id := range ids {
			next := max(seq-r.Intn(4)+2, 1)
			var log [][]api.Change
			begin := next
			for range r.Intn(4) {
				var changes []api.Change
				for range r.Intn(3) + 1 {
					c := set(string(rune('a'+r.Intn(4))), fmt.Sprint(r.Intn(100)))
					if r.Intn(4) == 0 {
						c = gone(c.Key)
					}
					changes = append(changes, c)
				}
				log = append(log, changes)
				if next == seq+1 {
					for _, c := range changes {
						if m[c.Key] = c.Value; c.Del {
							delete(m, c.Key)
						}
					}
					seq += len(changes)
				}
				next += len(changes)
			}
			l = append(l, of(fmt.Sprint("l", id+1), batches(begin, log...)))
		}
		r.Shuffle(len(l), func(i, k int) { l[i], l[k] = l[k], l[i] })
		opensTo(t, fmt.Sprint("drawn logs ", seed), disk(l...), seq, pairsOf(maps.Clone(m)))
	}
}
