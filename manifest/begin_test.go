package manifest

import (
	"bytes"
	"fmt"
	"slices"
	"testing"

	"tickler/api"
	"tickler/edit"
	"tickler/files"
	"tickler/sum"
)

// grounds: files that may be on which manifest 3 is begun: its name, next and CURRENT are there or not, now and behind a crash.
func grounds() map[string]files.State {
	m, next, junk := of("m3", []byte("old")), of("next", []byte("torn")), of("x")
	old := []entry{of("m2", first(levels())), of("CURRENT", current(2))}
	own := []entry{of("m3", first(levels())), of("CURRENT", current(3))}
	return map[string]files.State{
		"nothing":                         {Cap: 1 << 20, Next: 1},
		"empty lists":                     {Cap: 1 << 20, Files: []files.File{}, Names: []files.Name{}, Safe: []files.Name{}, Next: 9},
		"neither":                         disk(old...),
		"the manifest's name":             disk(append(old, m)...),
		"next":                            disk(append(old, next)...),
		"both":                            disk(append(old, m, next)...),
		"both, empty":                     disk(append(old, of("m3"), of("next"))...),
		"both, without CURRENT":           disk(m, next, junk),
		"the manifest's name, lost":       disk(append(old, entry{name: "m3", data: []byte("old"), lost: true}, junk)...),
		"next, lost":                      disk(append(old, entry{name: "next", data: current(7), lost: true})...),
		"both, lost":                      disk(append(old, entry{name: "m3", lost: true}, entry{name: "next", lost: true})...),
		"both, fresh":                     disk(append(old, entry{name: "m3", data: []byte("old"), loose: 2, fresh: true}, entry{name: "next", data: current(3), loose: 4, fresh: true})...),
		"next, of this manifest":          disk(append(old, m, of("next", current(3)))...),
		"this manifest counts":            disk(own...),
		"this manifest counts, and next":  disk(append(own, of("next", current(9)))...),
		"this manifest was noted":         disk(of("m3", first(levels()), log(edit.Edit{Drop: []int{9}, Seq: 1001, Next: 11})), of("CURRENT", current(3))),
		"this manifest's end is torn":     disk(of("m3", first(levels()), []byte("\x05\x05torn")), of("CURRENT", current(3)), next),
		"names much like it":              disk(append(old, of("m"), of("m33"), of("m4"), of("n3"), of("l3"), of("t3"), of("NEXT"), of("next1"), of("nex"))...),
		"logs and tables":                 disk(append(old, of("l4", []byte("log")), entry{name: "l5", data: []byte("log"), loose: 3}, of("t9", []byte("table")), entry{name: "t10", fresh: true})...),
		"a CURRENT that is not as it was": disk(append([]entry{of("CURRENT", []byte("?"))}, m)...),
	}
}

// P14.2

func TestBeginTellsTheActs(t *testing.T) {
	for where, s := range grounds() {
		for what, v := range versions() {
			for _, id := range []int{1, 2, 3, 4, 127, 128, lastID} {
				l, e := Begin(s, v, id)
				if want := modelBegin(s, v, id); e != api.OK || !sameActs(l, want) {
					t.Errorf("P14.2: Begin(%s, %s, %d): %s, error %d; want %s", where, what, id, brief(l), e, brief(want))
				}
			}
		}
	}
}

func TestBeginActByAct(t *testing.T) {
	v := edit.Version{Tables: []edit.Meta{table(5, 1, "a", "bc")}, Seq: 128, Next: 6}
	octets := sum.Guard([]byte{13, 5, 0x80, 0x80, 6, 0, 1, 5, 1, 3, 1, 'a', 2, 'b', 'c'})
	want := []api.Act{
		{What: 1, Name: "m300"}, {What: 2, Name: "m300", Data: octets}, {What: 3, Name: "m300"},
		{What: 1, Name: "next"}, {What: 2, Name: "next", Data: sum.Guard([]byte{2, 4, 0x81, 0x2c})}, {What: 3, Name: "next"},
		{What: 6}, {What: 4, Name: "next", To: "CURRENT"}, {What: 6},
	}
	if l, e := Begin(disk(of("m3"), of("NEXT")), v, 300); e != api.OK || !sameActs(l, want) {
		t.Errorf("P14.2: Begin: %s, error %d; want %s", brief(l), e, brief(want))
	}
	want = slices.Insert(want, 3, api.Act{What: 5, Name: "next"})
	if l, e := Begin(disk(of("next")), v, 300); e != api.OK || !sameActs(l, want) {
		t.Errorf("P14.2: Begin where next is: %s, error %d; want %s", brief(l), e, brief(want))
	}
	want = slices.Insert(want, 0, api.Act{What: 5, Name: "m300"})
	if l, e := Begin(disk(of("next"), of("m300")), v, 300); e != api.OK || !sameActs(l, want) {
		t.Errorf("P14.2: Begin where both are: %s, error %d; want %s", brief(l), e, brief(want))
	}
}

func TestBeginsActsCanBeDone(t *testing.T) {
	for where, s := range grounds() {
		for what, v := range versions() {
			l, _ := Begin(s, v, 3)
			f := done(t, s, l)
			if got, id, e := Load(f); !same(got, v) || id != 3 || e != api.OK {
				t.Errorf("P14.2: behind Begin(%s, %s, 3) Load tells %s, %d, error %d", where, what, brief(got), id, e)
			}
			if !bytes.Equal(octets(f, "m3"), first(v)) || !bytes.Equal(octets(f, "CURRENT"), current(3)) || has(f, "next") {
				t.Errorf("P14.2: behind Begin(%s, %s, 3) the files are %s", where, what, brief(f))
			}
			if !slices.Equal(f.Names, f.Safe) {
				t.Errorf("P14.2: behind Begin(%s, %s, 3) the names do not all last", where, what)
			}
			for _, n := range s.Names {
				if n.Name != "m3" && n.Name != "next" && n.Name != "CURRENT" && (!has(f, n.Name) || !bytes.Equal(octets(f, n.Name), octets(s, n.Name))) {
					t.Errorf("P14.2: Begin(%s, %s, 3) changes the file %q", where, what, n.Name)
				}
			}
		}
	}
}

func TestBeginOnceMore(t *testing.T) {
	s := disk()
	for i, id := range []int{1, 2, 2, 1, lastID, 1, 3} {
		v := edit.Version{Tables: []edit.Meta{table(i+1, 0, "a", "b")}, Seq: i, Next: i + 2}
		l, e := Begin(s, v, id)
		if e != api.OK {
			t.Fatalf("P14.2: Begin %d, of manifest %d: error %d", i, id, e)
		}
		s = done(t, s, l)
		if got, n, e := Load(s); !same(got, v) || n != id || e != api.OK {
			t.Errorf("P14.2: behind Begin %d Load tells %s, %d, error %d", i, brief(got), n, e)
		}
	}
}

func TestBeginsFirstError(t *testing.T) {
	refuse := func(what string, s files.State, v edit.Version, id int, want api.Errno) {
		if l, e := Begin(s, v, id); len(l) != 0 || e != want {
			t.Errorf("P14.2: Begin, %s, id %d: %s, error %d; want none, error %d", what, id, brief(l), e, want)
		}
	}
	for where, s := range noStates() {
		for _, id := range append(badIDs(), 3) {
			refuse(where, s, levels(), id, api.ErrState)
			refuse(where+", no version", s, edit.Version{}, id, api.ErrState)
		}
	}
	for where, s := range grounds() {
		for what, v := range noVersions() {
			for _, id := range append(badIDs(), 3) {
				refuse(where+", "+what, s, v, id, api.ErrState)
			}
		}
		for _, id := range badIDs() {
			refuse(where, s, levels(), id, api.ErrRange)
		}
	}
}

func TestNoteTellsTwoActs(t *testing.T) {
	for what, d := range edits() {
		for _, id := range goodIDs() {
			name := fmt.Sprint("m", id)
			want := []api.Act{{What: 2, Name: name, Data: log(d)}, {What: 3, Name: name}}
			if l, e := Note(id, d); e != api.OK || !sameActs(l, want) {
				t.Errorf("P14.2: Note(%d, %s): %s, error %d; want %s", id, what, brief(l), e, brief(want))
			}
		}
	}
	want := []api.Act{{What: 2, Name: "m12", Data: sum.Guard([]byte{4, 5, 7, 9, 0, 0})}, {What: 3, Name: "m12"}}
	if l, e := Note(12, edit.Edit{Seq: 7, Next: 9}); e != api.OK || !sameActs(l, want) {
		t.Errorf("P14.2: Note: %s, error %d; want %s", brief(l), e, brief(want))
	}
}

func TestNotesFirstError(t *testing.T) {
	for _, id := range badIDs() {
		for what, d := range edits() {
			if l, e := Note(id, d); len(l) != 0 || e != api.ErrRange {
				t.Errorf("P14.2: Note(%d, %s): %s, error %d; want ErrRange", id, what, brief(l), e)
			}
		}
		for what, c := range refusedEdits() {
			if l, e := Note(id, c.d); len(l) != 0 || e != api.ErrRange {
				t.Errorf("P14.2: Note(%d, %s): %s, error %d; want ErrRange", id, what, brief(l), e)
			}
		}
	}
	for what, c := range refusedEdits() {
		for _, id := range goodIDs() {
			if l, e := Note(id, c.d); len(l) != 0 || e != c.want {
				t.Errorf("P14.2: Note(%d, %s): %s, error %d; want error %d", id, what, brief(l), e, c.want)
			}
		}
	}
}
