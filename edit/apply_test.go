package edit

import (
	"fmt"
	"math"
	"slices"
	"testing"

	"tickler/api"
)

// P11.1: Apply

// idsOf: the IDs of tables.
func idsOf(l []Meta) []int {
	var ids []int
	for _, m := range l {
		ids = append(ids, m.ID)
	}
	return ids
}

// with: an edit of levels() that changes neither number.
func with(drop []int, add ...Meta) Edit {
	return Edit{Drop: drop, Add: add, Seq: levels().Seq, Next: levels().Next}
}

func TestApplyAnswers(t *testing.T) {
	wide := levels()
	wide.Next = 100
	for _, c := range []struct {
		what string
		v    Version
		e    Edit
		want []int
	}{
		{"nothing", levels(), with(nil), []int{9, 8, 3, 5, 1, 6, 7, 2, 4}},
		{"one goes", levels(), with([]int{7}), []int{9, 8, 3, 5, 1, 6, 2, 4}},
		{"all go, in any order", levels(), with([]int{4, 9, 1, 8, 2, 7, 3, 6, 5}), nil},
		{"one of level 0 comes", wide, Edit{Add: []Meta{table(50, 0, "a", "z")}, Seq: 1000, Next: 100}, []int{50, 9, 8, 3, 5, 1, 6, 7, 2, 4}},
		{"one between", wide, Edit{Add: []Meta{table(50, 1, "cc", "cd")}, Seq: 1000, Next: 100}, []int{9, 8, 3, 5, 50, 1, 6, 7, 2, 4}},
		{"one ahead", wide, Edit{Add: []Meta{table(50, 3, "\x00", "/")}, Seq: 1000, Next: 100}, []int{9, 8, 3, 5, 1, 6, 7, 50, 2, 4}},
		{"out of order", wide, Edit{Add: []Meta{table(60, 3, "zz", "zz"), table(61, 0, "q", "r"), table(62, 2, "0", "0"), table(99, 0, "q", "r"), table(64, 1, "f", "g"), table(65, 1, "c\x00", "cz")}, Seq: 1000, Next: 100}, []int{99, 61, 9, 8, 3, 5, 65, 1, 6, 64, 62, 7, 2, 4, 60}},
		{"dropped and added again", levels(), with([]int{5}, table(5, 1, "b", "c")), []int{9, 8, 3, 5, 1, 6, 7, 2, 4}},
		{"dropped and added on another level", levels(), with([]int{7, 8}, table(7, 0, "x", "y"), table(8, 2, "a", "z")), []int{9, 7, 3, 5, 1, 6, 8, 2, 4}},
		{"three become one", levels(), with([]int{9, 8, 3, 5}, table(9, 1, "0", "cz")), []int{9, 1, 6, 7, 2, 4}},
		{"Seq and Next rise", levels(), Edit{Drop: []int{9}, Add: []Meta{table(10, 0, "a", "b")}, Seq: 1001, Next: 11}, []int{10, 8, 3, 5, 1, 6, 7, 2, 4}},
		{"Seq and Next at most", levels(), Edit{Drop: []int{9}, Add: []Meta{table(lastID-1, 0, "a", "b")}, Seq: lastSeq, Next: lastID}, []int{lastID - 1, 8, 3, 5, 1, 6, 7, 2, 4}},
	} {
		v, e := Apply(c.v, c.e)
		if e != api.OK || !slices.Equal(idsOf(v.Tables), c.want) || v.Seq != c.e.Seq || v.Next != c.e.Next {
			t.Errorf("P11.1: Apply, %s: %v, error %d; want the IDs %v", c.what, v, e, c.want)
		}
		applied(t, c.what, c.v, c.e)
	}
}

// refused fails unless Apply answers that error and nothing else.
func refused(t *testing.T, what string, v Version, e Edit, want api.Errno) {
	t.Helper()
	if w, why := Apply(v, e); why != want || !noVersion(w) {
		t.Errorf("P11.1: Apply, %s: %v, error %d; want error %d", what, w, why, want)
	}
}

// Each edit would be refused for all that is named behind what it is refused for.
func TestApplyOrderOfErrors(t *testing.T) {
	low := Edit{Drop: []int{10}, Add: []Meta{{}}, Seq: 999, Next: 9}
	for what, v := range unmade() {
		refused(t, what+", and all else", v, low, api.ErrState)
		refused(t, what+", nothing to be done", v, Edit{Seq: v.Seq, Next: v.Next}, api.ErrState)
	}
	refused(t, "an ID that is not there, and all else", levels(), low, api.ErrNone)
	low.Drop = []int{1, 2, 1}
	refused(t, "an ID not any more there, and all else", levels(), low, api.ErrNone)
	low.Drop = []int{1}
	refused(t, "both below, and a meta that may not be", levels(), low, api.ErrRange)
	low.Seq = 1000
	refused(t, "Next below, and a meta that may not be", levels(), low, api.ErrRange)
	low.Seq, low.Next = 999, 10
	refused(t, "Seq below, and a meta that may not be", levels(), low, api.ErrRange)
	low.Seq = 1000
	refused(t, "a meta that may not be", levels(), low, api.ErrState)
	low.Add = nil
	if v, e := Apply(levels(), low); e != api.OK || len(v.Tables) != 8 {
		t.Errorf("P11.1: Apply, nothing wrong: %v, error %d", v, e)
	}
}

func TestApplyOfWhatIsNotThere(t *testing.T) {
	for _, id := range []int{math.MinInt, -1, 0, 10, 11, 1<<32 + 1, lastID, math.MaxInt} {
		refused(t, fmt.Sprint("drop ", id), levels(), with([]int{id}), api.ErrNone)
		refused(t, fmt.Sprint("drop 1 and ", id), levels(), with([]int{1, id}), api.ErrNone)
		refused(t, fmt.Sprint("drop ", id, " and 1"), levels(), with([]int{id, 1}), api.ErrNone)
		refused(t, fmt.Sprint("drop ", id, " of none"), New(), Edit{Drop: []int{id}, Next: 1}, api.ErrNone)
	}
	for _, m := range levels().Tables {
		refused(t, fmt.Sprint("drop twice ", m.ID), levels(), with([]int{m.ID, m.ID}), api.ErrNone)
		refused(t, fmt.Sprint("drop twice, another between ", m.ID), levels(), with([]int{m.ID, m.ID%9 + 1, m.ID}), api.ErrNone)
	}
	// What comes is not there yet when the others go.
	refused(t, "drop what is added", levels(), Edit{Drop: []int{10}, Add: []Meta{table(10, 0, "a", "b")}, Seq: 1000, Next: 11}, api.ErrNone)
	refused(t, "drop twice, added once", levels(), with([]int{9, 9}, table(9, 0, "a", "b")), api.ErrNone)
}

func TestApplyOfNumbersBelow(t *testing.T) {
	for _, d := range []int{-2, -1, 0, 1, 2} {
		want := api.OK
		if d < 0 {
			want = api.ErrRange
		}
		v, e := Apply(levels(), Edit{Seq: 1000 + d, Next: 10})
		if e != want || e == api.OK && v.Seq != 1000+d || e != api.OK && !noVersion(v) {
			t.Errorf("P11.1: Apply, Seq %d above: %v, error %d", d, v, e)
		}
		v, e = Apply(levels(), Edit{Seq: 1000, Next: 10 + d})
		if e != want || e == api.OK && v.Next != 10+d || e != api.OK && !noVersion(v) {
			t.Errorf("P11.1: Apply, Next %d above: %v, error %d", d, v, e)
		}
	}
	// The numbers are the version's, not those of the tables that are left.
	refused(t, "Next above the IDs that are left, below the version's", Version{Next: 7}, Edit{Next: 6}, api.ErrRange)
	refused(t, "Seq and Next of an edit without them", levels(), Edit{}, api.ErrRange)
	refused(t, "Seq at least", levels(), Edit{Seq: math.MinInt, Next: 10}, api.ErrRange)
	refused(t, "Next at least", levels(), Edit{Seq: 1000, Next: math.MinInt}, api.ErrRange)
	refused(t, "Seq 2^40 + 1", levels(), Edit{Seq: lastSeq + 1, Next: 10}, api.ErrState)
	refused(t, "Next 2^31", levels(), Edit{Seq: 1000, Next: lastID + 1}, api.ErrState)
	refused(t, "both at most", levels(), Edit{Seq: math.MaxInt, Next: math.MaxInt}, api.ErrState)
}

func TestApplyOfWhatMayNotFollow(t *testing.T) {
	for what, m := range wrongMetas() {
		refused(t, what, New(), Edit{Add: []Meta{m}, Next: lastID}, api.ErrState)
		refused(t, what+", with tables", of(table(9, 0, "a", "b")), Edit{Add: []Meta{table(8, 3, "zz", "zzz"), m}, Seq: 7, Next: lastID}, api.ErrState)
	}
	for what, m := range map[string]Meta{
		"an ID that is there":          table(7, 0, "a", "z"),
		"an ID that is there, level 3": table(9, 3, "zz", "zz"),
		"the same table":               levels().Tables[6],
		"the same table, level 0":      levels().Tables[0],
		"an ID equal to Next":          table(10, 0, "a", "z"),
		"an ID above Next":             table(11, 0, "a", "z"),
	} {
		refused(t, what, levels(), with(nil, m), api.ErrState)
	}
	for what, m := range map[string]Meta{
		"Low in another":     table(10, 1, "c", "cc"),
		"High in another":    table(10, 1, "0", "a"),
		"within another":     table(10, 1, "b", "bb"),
		"over another":       table(10, 1, "cc", "d\x00"),
		"over all":           table(10, 1, "\x00", "\xff"),
		"the same keys":      table(10, 1, "a", "c"),
		"level 2":            table(10, 2, "m", "m"),
		"level 3, the first": table(10, 3, "9", "9"),
		"level 3, the last":  table(10, 3, "z", "zz"),
	} {
		refused(t, "keys in common, "+what, levels(), Edit{Add: []Meta{m}, Seq: 1000, Next: 11}, api.ErrState)
		m.Level = 0
		if v, e := Apply(levels(), Edit{Add: []Meta{m}, Seq: 1000, Next: 11}); e != api.OK || v.Tables[0] != m {
			t.Errorf("P11.1: Apply, keys in common on level 0, %s: %v, error %d", what, v, e)
		}
	}
	refused(t, "two that come with one ID", New(), Edit{Add: []Meta{table(1, 0, "a", "b"), table(1, 1, "a", "b")}, Next: 9}, api.ErrState)
	refused(t, "two that come with a key in common", New(), Edit{Add: []Meta{table(1, 2, "b", "c"), table(2, 2, "a", "b")}, Next: 9}, api.ErrState)
}

func TestApplyOfMany(t *testing.T) {
	full := of(row(256, 1, 1)...)
	all := idsOf(full.Tables)
	applied(t, "all 256 go", full, Edit{Drop: all, Seq: 7, Next: lastID})
	refused(t, "257 go", full, Edit{Drop: append(slices.Clone(all), 1), Seq: 7, Next: lastID}, api.ErrNone)
	refused(t, "300 go", full, Edit{Drop: counted(300), Seq: 7, Next: lastID}, api.ErrNone)
	refused(t, "one more", full, Edit{Add: []Meta{table(300, 0, "a", "b")}, Seq: 7, Next: lastID}, api.ErrState)
	for _, n := range []int{255, 256, 257, 300} {
		for level := range 4 {
			add := Edit{Drop: all, Add: row(n, 300, level), Seq: 7, Next: lastID}
			slices.Reverse(add.Add)
			v, e := Apply(full, add)
			if n <= 256 && (e != api.OK || !slices.Equal(v.Tables, row(n, 300, level))) {
				t.Errorf("P11.1: Apply, %d of level %d for 256: %v, error %d", n, level, v, e)
			}
			if n > 256 && (e != api.ErrState || !noVersion(v)) {
				t.Errorf("P11.1: Apply, %d of level %d for 256: %v, error %d", n, level, v, e)
			}
		}
	}
	one := Edit{Drop: []int{77}, Add: []Meta{table(77, 0, "a", "b")}, Seq: 7, Next: lastID}
	if v, e := Apply(full, one); e != api.OK || len(v.Tables) != 256 || v.Tables[0] != one.Add[0] {
		t.Errorf("P11.1: Apply, one of 256 for another: %v, error %d", v, e)
	}
}

// All pairs of versions that may be: what makes one of the other, and edits that are half of it.
func TestApplyFromEachToEach(t *testing.T) {
	for what, v := range versions() {
		for other, w := range versions() {
			e := Edit{Drop: idsOf(v.Tables), Add: w.Tables, Seq: max(v.Seq, w.Seq), Next: max(v.Next, w.Next)}
			got, why := Apply(v, e)
			if why != api.OK || !slices.Equal(got.Tables, w.Tables) || got.Seq != e.Seq || got.Next != e.Next {
				t.Errorf("P11.1: Apply, from %s to %s: %v, error %d", what, other, got, why)
			}
			e.Drop = e.Drop[len(e.Drop)/2:]
			applied(t, fmt.Sprint("half from ", what, " to ", other), v, e)
			applied(t, fmt.Sprint("from ", what, " with the numbers of ", other), v, Edit{Seq: w.Seq, Next: w.Next})
		}
	}
}
