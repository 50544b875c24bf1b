package manifest

import (
	"math"
	"math/rand"
	"slices"
	"strconv"
	"testing"

	"tickler/api"
	"tickler/edit"
	"tickler/files"
	"tickler/sum"
	"tickler/varint"
)

// tells fails unless Load tells the version and the number.
func tells(t *testing.T, what string, s files.State, v edit.Version, id int) {
	t.Helper()
	if got, n, e := Load(s); !same(got, v) || n != id || e != api.OK {
		t.Errorf("P14.3: Load, %s: %s, %d, error %d; want %s, %d", what, brief(got), n, e, brief(v), id)
	}
}

// refuses fails unless Load answers the error, and nothing beside it.
func refuses(t *testing.T, what string, s files.State, want api.Errno) {
	t.Helper()
	if got, n, e := Load(s); !none(got) || n != 0 || e != want {
		t.Errorf("P14.3: Load, %s: %s, %d, error %d; want none, error %d", what, brief(got), n, e, want)
	}
}

// history: edits that follow each other, and the version behind each.
func history(t *testing.T) ([]edit.Edit, []edit.Version) {
	t.Helper()
	l := []edit.Edit{
		{Add: levels().Tables, Seq: 1000, Next: 10},
		{Seq: 1000, Next: 10},
		{Add: []edit.Meta{table(10, 0, "c", "e")}, Seq: 1003, Next: 11},
		{Drop: []int{10, 8, 9}, Add: []edit.Meta{table(11, 1, "e", "z")}, Seq: 1003, Next: 12},
		{Drop: []int{7, 4, 11, 5, 1}, Seq: lastSeq, Next: lastID},
	}
	var versions []edit.Version
	v := edit.New()
	for _, d := range l {
		next, e := edit.Apply(v, d)
		if e != api.OK {
			t.Fatalf("the history breaks off: error %d", e)
		}
		versions = append(versions, next)
		v = next
	}
	return l, versions
}

// P14.3: CURRENT

func TestLoadTellsTheManifestThatCounts(t *testing.T) {
	for what, v := range versions() {
		for _, id := range goodIDs() {
			other := edit.Version{Seq: 77, Next: 88}
			decoys := []entry{of("m5", first(other)), of("m"+strconv.Itoa(id-1)+"0", first(other)), of("t"+strconv.Itoa(id), first(other)), of("next", current(5))}
			tells(t, what, store(v, id), v, id)
			tells(t, what+", with others", store(v, id, decoys...), v, id)
		}
	}
}

func TestLoadOfFilesThatMayNotBe(t *testing.T) {
	for what, s := range noStates() {
		refuses(t, what, s, api.ErrState)
	}
}

func TestLoadWithoutCurrent(t *testing.T) {
	m := of("m3", first(levels()))
	lost := entry{name: "CURRENT", data: current(3), lost: true}
	for what, s := range map[string]files.State{
		"nothing at all":           disk(),
		"a manifest alone":         disk(m),
		"next alone":               disk(m, of("next", current(3))),
		"a CURRENT that was there": disk(m, lost),
		"names much like it":       disk(m, of("current", current(3)), of("CURRENT1", current(3)), of("CURREN", current(3))),
	} {
		refuses(t, what, s, api.ErrNone)
	}
	tells(t, "a CURRENT that does not last yet", disk(m, entry{name: "CURRENT", data: current(3), fresh: true, loose: 2}), levels(), 3)
}

// noCurrents: octets that CURRENT never has.
func noCurrents() map[string][]byte {
	two := slices.Concat(current(3), current(3))
	return map[string][]byte{
		"empty":                   nil,
		"an octet of 0":           {0},
		"the number alone":        {3},
		"the number in digits":    []byte("m3"),
		"an octet too many":       append(current(3), 0),
		"an octet ahead":          append([]byte{0}, current(3)...),
		"a record twice":          two,
		"a torn record behind":    two[:len(two)-1],
		"another record behind":   append(current(3), record(5, nil)...),
		"without a number":        record(4, nil),
		"two numbers":             record(4, []byte{3, 3}),
		"a number and an octet 0": record(4, []byte{3, 0}),
		"an octet 0 and a number": record(4, []byte{0, 3}),
		"a number cut off":        record(4, []byte{0x80}),
		"a number in two octets":  record(4, []byte{0x80, 3}),
		"a number in nine octets": record(4, []byte{255, 0, 0, 0, 0, 0, 0, 0, 3}),
		"Kind 0":                  record(0, varint.Put(3)),
		"Kind 3":                  record(3, varint.Put(3)),
		"Kind 5":                  record(5, varint.Put(3)),
		"Kind 255":                record(255, varint.Put(3)),
		"a length in two octets":  sum.Guard([]byte{0x80, 1, 4, 3}),
		"no sum":                  {1, 4, 3},
		"a sum of 0":              {1, 4, 3, 0, 0, 0, 0},
		"the number 0":            current(0),
		"2^31":                    current(1 << 31),
		"2^31 + 3":                current(1<<31 + 3),
		"2^32":                    current(1 << 32),
		"2^32 + 3":                current(1<<32 + 3),
		"2^63 - 1":                current(math.MaxInt64),
		"2^63":                    current(1 << 63),
		"2^63 + 3":                current(1<<63 + 3),
		"2^64 - 1":                current(math.MaxUint64),
		"an edit":                 first(levels()),
	}
}

func TestLoadOfACurrentThatIsNone(t *testing.T) {
	m := []entry{of("m3", first(levels())), of("m0", first(levels())), of("m2147483648", first(levels()))}
	for what, b := range noCurrents() {
		refuses(t, "CURRENT is "+what, disk(append(m, of("CURRENT", b))...), api.ErrCorrupt)
		refuses(t, "CURRENT is "+what+", no manifest", disk(of("CURRENT", b)), api.ErrCorrupt)
	}
}

func TestLoadOfACurrentCutOffOrChanged(t *testing.T) {
	for _, id := range []int{3, 300, lastID} {
		m := of("m"+strconv.Itoa(id), first(levels()))
		whole := current(uint64(id))
		for i := range whole {
			refuses(t, "CURRENT is cut off", disk(m, of("CURRENT", whole[:i])), api.ErrCorrupt)
			for x := 1; x < 256; x++ {
				b := slices.Clone(whole)
				b[i] ^= byte(x)
				refuses(t, "an octet of CURRENT is another one", disk(m, of("CURRENT", b)), api.ErrCorrupt)
			}
		}
		tells(t, "CURRENT is whole", disk(m, of("CURRENT", whole)), levels(), id)
	}
}

func TestLoadWithoutTheManifest(t *testing.T) {
	for what, l := range map[string][]entry{
		"CURRENT alone":           nil,
		"another manifest":        {of("m2", first(levels())), of("m30", first(levels())), of("m33", first(levels()))},
		"names much like it":      {of("m03", first(levels())), of("M3", first(levels())), of("3", first(levels())), of("m", first(levels()))},
		"a log and a table of it": {of("l3", first(levels())), of("t3", first(levels()))},
		"one that was there":      {entry{name: "m3", data: first(levels()), lost: true}},
	} {
		refuses(t, what, disk(append(l, of("CURRENT", current(3)))...), api.ErrNone)
	}
}

// P14.3: the manifest

// with: the disk whose manifest 3 has these octets.
func with(b ...[]byte) files.State {
	return disk(of("CURRENT", current(3)), of("m3", b...))
}

func TestLoadAppliesEachEdit(t *testing.T) {
	l, versions := history(t)
	for i, v := range versions {
		tells(t, "edits one behind the other", with(log(l[:i+1]...)), v, 3)
	}
}

func TestLoadOfAManifestCutOff(t *testing.T) {
	l, versions := history(t)
	var ends []int
	for i := range l {
		ends = append(ends, len(log(l[:i+1]...)))
	}
	whole := log(l...)
	for cut := range len(whole) + 1 {
		n := 0
		for n < len(ends) && ends[n] <= cut {
			n++
		}
		for _, behind := range [][]byte{nil, {0}, {255}, []byte("\x01\x05")} {
			s := with(whole[:cut])
			if slices.Contains(ends, cut) {
				s = with(whole[:cut], behind)
			}
			if n == 0 {
				refuses(t, "cut off in its first record", s, api.ErrCorrupt)
			} else {
				tells(t, "cut off", s, versions[n-1], 3)
			}
		}
	}
}

func TestLoadOfAManifestChanged(t *testing.T) {
	l, versions := history(t)
	whole := log(l...)
	for i := range whole {
		for _, x := range []byte{1, 2, 16, 128, 255} {
			b := slices.Clone(whole)
			b[i] ^= x
			// The records ahead of the one that has the octet are still whole.
			n := 0
			for n < len(l) && len(log(l[:n+1]...)) <= i {
				n++
			}
			if n == 0 {
				refuses(t, "an octet of its first record is another one", with(b), api.ErrCorrupt)
			} else {
				tells(t, "an octet is another one", with(b), versions[n-1], 3)
			}
		}
	}
}

func TestLoadStopsAtWhatIsNoRecord(t *testing.T) {
	l, versions := history(t)
	torn := log(l[1])[:9]
	tells(t, "a record behind a torn one", with(log(l[0]), torn, log(l[1:]...)), versions[0], 3)
	tells(t, "a record behind an octet 255", with(log(l[:2]...), []byte{255}, log(l[2:]...)), versions[1], 3)
	tells(t, "a record of another Kind behind a torn one", with(log(l[:2]...), torn[:3], record(4, nil)), versions[1], 3)
	refuses(t, "records behind a torn one", with(torn, log(l...)), api.ErrCorrupt)
	refuses(t, "an octet ahead of the records", with([]byte{0}, log(l...)), api.ErrCorrupt)
}

// noEdits: records that a frame takes and a manifest does not, behind the versions new and levels alike.
func noEdits(t *testing.T) map[string][]byte {
	t.Helper()
	fits, e := edit.Encode(edit.Edit{Seq: 2000, Next: 20})
	if e != api.OK {
		t.Fatal("no edit")
	}
	all := map[string][]byte{
		"Kind 0":                 record(0, fits),
		"Kind 4":                 record(4, fits),
		"Kind 6":                 record(6, fits),
		"Kind 255":               record(255, fits),
		"a record of CURRENT":    current(3),
		"no octets":              record(5, nil),
		"an edit cut off":        record(5, fits[:len(fits)-1]),
		"an octet too many":      record(5, append(slices.Clone(fits), 0)),
		"an edit twice":          record(5, slices.Concat(fits, fits)),
		"a number in two octets": record(5, append([]byte{0x80}, fits...)),
		"a number above 2^40":    record(5, slices.Concat(varint.Put(1<<40+1), []byte{20, 0, 0})),
		"257 to drop":            record(5, slices.Concat([]byte{20, 20}, varint.Put(257), make([]byte, 258))),
	}
	for what, d := range map[string]edit.Edit{
		"an ID to drop that is not there": {Drop: []int{3}, Seq: 2000, Next: 20},
		"an ID to drop twice":             {Drop: []int{9, 9}, Seq: 2000, Next: 20},
		"Next 0":                          {Seq: 2000},
		"Next above all":                  {Seq: 2000, Next: lastID + 1},
		"a table of ID 0":                 {Add: []edit.Meta{table(0, 0, "a", "b")}, Seq: 2000, Next: 20},
		"a table of ID Next":              {Add: []edit.Meta{table(20, 0, "a", "b")}, Seq: 2000, Next: 20},
		"two tables of one ID":            {Add: []edit.Meta{table(12, 0, "a", "b"), table(12, 1, "x", "y")}, Seq: 2000, Next: 20},
		"a key in common":                 {Add: []edit.Meta{table(12, 3, "y", "z"), table(13, 3, "x", "yy")}, Seq: 2000, Next: 20},
		"a table of level 4":              {Add: []edit.Meta{table(12, 4, "a", "b")}, Seq: 2000, Next: 20},
		"a table without keys":            {Add: []edit.Meta{{ID: 12, Count: 1}}, Seq: 2000, Next: 20},
	} {
		all[what] = log(d)
	}
	return all
}

func TestLoadOfARecordThatIsNoEdit(t *testing.T) {
	l, _ := history(t)
	for what, b := range noEdits(t) {
		refuses(t, what+", alone", with(b), api.ErrCorrupt)
		refuses(t, what+", ahead", with(b, log(l...)), api.ErrCorrupt)
		refuses(t, what+", ahead of a torn one", with(b, log(l...)[:7]), api.ErrCorrupt)
		refuses(t, what+", behind", with(log(l[0]), b), api.ErrCorrupt)
		refuses(t, what+", in between", with(log(l[0], l[1]), b, log(l[2])), api.ErrCorrupt)
		refuses(t, what+", behind, and a torn one", with(log(l[0]), b, []byte{255}), api.ErrCorrupt)
	}
	// These two fit New(), and not the version behind it.
	refuses(t, "Seq goes down", with(log(l[0], edit.Edit{Seq: 999, Next: 10})), api.ErrCorrupt)
	refuses(t, "Next goes down", with(log(l[0], edit.Edit{Seq: 1000, Next: 9})), api.ErrCorrupt)
	refuses(t, "a table comes twice", with(log(l[0], l[0])), api.ErrCorrupt)
	refuses(t, "257 tables in all", with(log(edit.Edit{Add: row(256, 1, 1), Next: 300}, edit.Edit{Add: row(1, 257, 2), Next: 300})), api.ErrCorrupt)
}

func TestLoadOfAManifestWithoutRecords(t *testing.T) {
	refuses(t, "an empty manifest", with(), api.ErrCorrupt)
	for _, b := range []string{"\x00", "\xff", "\x04", "not a record at all", "\x00\x05\x00\x00\x00\x00"} {
		refuses(t, "a manifest without records", with([]byte(b)), api.ErrCorrupt)
	}
}

func TestLoadOfManyEdits(t *testing.T) {
	var l []edit.Edit
	for i := range 20000 {
		l = append(l, edit.Edit{Seq: i, Next: i + 1})
	}
	tells(t, "20000 edits", with(log(l...)), edit.Version{Seq: 19999, Next: 20000}, 3)
}

func TestLoadOfDrawnFiles(t *testing.T) {
	r := rand.New(rand.NewSource(143))
	l, _ := history(t)
	var pieces [][]byte
	for i := range l {
		pieces = append(pieces, log(l[i]), log(edit.Edit{Seq: 10 * i, Next: 3 * i}))
	}
	pieces = append(pieces, []byte{0}, []byte("\x04\x05torn"), record(4, nil), record(6, []byte{0, 1, 0, 0}))
	count := map[api.Errno]int{}
	for range 4000 {
		var m []byte
		for range r.Intn(5) {
			m = append(m, pieces[r.Intn(len(pieces))]...)
		}
		c := current(uint64(r.Intn(4)))
		if r.Intn(6) == 0 {
			c = c[:r.Intn(len(c))]
		}
		s := disk(of("m"+strconv.Itoa(1+r.Intn(3)), m), of("m4", first(levels())), of([]string{"CURRENT", "CURRENT", "CURRENT", "C"}[r.Intn(4)], c))
		v, id, want := modelLoad(s)
		if got, n, e := Load(s); !same(got, v) || n != id || e != want {
			t.Fatalf("P14.3: Load(%s): %s, %d, error %d; want %s, %d, error %d", brief(s), brief(got), n, e, brief(v), id, want)
		}
		count[want]++
	}
	if count[api.OK] < 100 || count[api.ErrNone] < 100 || count[api.ErrCorrupt] < 100 {
		t.Errorf("P14.3: too few of one kind to tell: %v", count)
	}
}

// P1 of DOC.md: whatever the octets, Load answers.

func FuzzLoad(f *testing.F) {
	f.Add(current(3), first(levels()), "m3", 1<<20)
	f.Add(current(3), log(edit.Edit{Seq: 1, Next: 2}, edit.Edit{Seq: 0, Next: 2}), "m3", 1<<20)
	f.Add(current(lastID), first(edit.New())[:5], "m2147483647", 100)
	f.Add([]byte("\xff\xff\xff\xff\xff\xff\xff\xff\xff\x04"), []byte("\xff"), "", 5)
	f.Fuzz(func(t *testing.T, c, m []byte, name string, size int) {
		s := files.State{Cap: size, Files: []files.File{{ID: 1, Data: c}, {ID: 2, Data: m, Synced: len(m)}}, Names: []files.Name{{Name: "CURRENT", ID: 1}, {Name: name, ID: 2}}, Next: 3}
		v, id, want := edit.Version{}, 0, files.Check(s)
		if want == api.OK {
			v, id, want = modelLoad(s)
		}
		if got, n, e := Load(s); !same(got, v) || n != id || e != want {
			t.Fatalf("P14.3: Load(%s): %s, %d, error %d; want %s, %d, error %d", brief(s), brief(got), n, e, brief(v), id, want)
		}
	})
}
