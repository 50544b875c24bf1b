package manifest

import (
	"fmt"
	"math"
	"math/rand"
	"slices"
	"strconv"
	"strings"
	"testing"

	"tickler/api"
	"tickler/edit"
	"tickler/files"
)

// leaves fails unless Orphans tells just these names.
func leaves(t *testing.T, what string, s files.State, v edit.Version, id, log int, want ...string) {
	t.Helper()
	if l, e := Orphans(s, v, id, log); !slices.Equal(l, want) || e != api.OK {
		t.Errorf("P14.3: Orphans, %s, manifest %d, log %d: %s, error %d; want %s", what, id, log, brief(l), e, brief(want))
	}
}

// named: a disk with empty files of these names.
func named(names ...string) files.State {
	var l []entry
	for _, name := range names {
		l = append(l, of(name))
	}
	return disk(l...)
}

// tables: a version that has tables with these IDs, and that may be or not.
func tables(ids ...int) edit.Version {
	var v edit.Version
	for _, id := range ids {
		v.Tables = append(v.Tables, table(id, 0, "a", "b"))
	}
	return v
}

// P14.3: Orphans

func TestOrphansOfFilesThatMayNotBe(t *testing.T) {
	for what, s := range noStates() {
		for _, v := range []edit.Version{levels(), {}} {
			for _, id := range []int{3, 0} {
				if l, e := Orphans(s, v, id, 4); len(l) != 0 || e != api.ErrState {
					t.Errorf("P14.3: Orphans, %s: %s, error %d; want ErrState", what, brief(l), e)
				}
			}
		}
	}
}

func TestNoOrphans(t *testing.T) {
	leaves(t, "no files", disk(), levels(), 3, 4)
	leaves(t, "CURRENT", named("CURRENT"), edit.New(), 3, 4)
	leaves(t, "all needed", named("CURRENT", "m3", "l4", "l5", "l10", "t9", "t8", "t5", "t1", "t7", "t4"), levels(), 3, 4)
	leaves(t, "the highest numbers", named("CURRENT", "m2147483647", "l2147483647", "t2147483647"), tables(lastID), lastID, lastID)
}

func TestOrphansOfEachKind(t *testing.T) {
	s := named("CURRENT", "m1", "m2", "m3", "m20", "l1", "l2", "l3", "l20", "t1", "t2", "t3", "t20", "next", "x")
	v := tables(2, 20)
	leaves(t, "all kinds", s, v, 2, 3, "l1", "l2", "m1", "m20", "m3", "next", "t1", "t3", "x")
	leaves(t, "another manifest", s, v, 20, 3, "l1", "l2", "m1", "m2", "m3", "next", "t1", "t3", "x")
	leaves(t, "a manifest that is not there", s, v, 7, 3, "l1", "l2", "m1", "m2", "m20", "m3", "next", "t1", "t3", "x")
	leaves(t, "no tables", s, edit.Version{}, 2, 3, "l1", "l2", "m1", "m20", "m3", "next", "t1", "t2", "t20", "t3", "x")
	leaves(t, "tables that are not there", s, tables(5, 21), 2, 3, "l1", "l2", "m1", "m20", "m3", "next", "t1", "t2", "t20", "t3", "x")
	leaves(t, "nothing but orphans", named("m1", "next", "t7"), edit.New(), 2, 3, "m1", "next", "t7")
}

func TestOrphansAmongLogs(t *testing.T) {
	s := named("l1", "l2", "l9", "l10", "l2147483647")
	all := []string{"l1", "l10", "l2", "l2147483647", "l9"}
	for _, log := range []int{math.MinInt, -1, 0, 1} {
		leaves(t, "logs above", s, edit.New(), 3, log)
	}
	leaves(t, "logs", s, edit.New(), 3, 2, "l1")
	leaves(t, "logs", s, edit.New(), 3, 3, "l1", "l2")
	leaves(t, "logs", s, edit.New(), 3, 9, "l1", "l2")
	leaves(t, "logs", s, edit.New(), 3, 10, "l1", "l2", "l9")
	leaves(t, "logs", s, edit.New(), 3, 11, "l1", "l10", "l2", "l9")
	leaves(t, "logs", s, edit.New(), 3, lastID, "l1", "l10", "l2", "l9")
	for _, log := range []int{lastID + 1, 1 << 32, math.MaxInt} {
		leaves(t, "logs below", s, edit.New(), 3, log, all...)
	}
}

func TestOrphansThatAreNoNames(t *testing.T) {
	l := []string{"next", "current", "CURRENT0", "CURREN", "m", "l", "t", "m0", "l0", "t0", "m03", "l04", "t05", "l007", "m+3", "l+4", "t-5", "l-4", "m3x", "l4.", "t5_", "mm3", "tl4", "M3", "L4", "T5", "l2147483648", "t2147483648", "m2147483648", "l99999999999999999999", "3", "4", "~", "!"}
	want := slices.Sorted(slices.Values(l))
	leaves(t, "no names", named(append(l, "CURRENT", "m3", "l4", "t5")...), tables(5), 3, 4, want...)
	// Numbers that no name has are nobody's: no file is needed by them.
	for _, id := range badIDs() {
		leaves(t, "numbers of no name", named(l...), tables(0, -5, lastID+1, math.MaxInt, math.MinInt), id, 4, want...)
	}
	leaves(t, "number 0 for all", named("m0", "l0", "t0"), tables(0), 0, 0, "l0", "m0", "t0")
}

func TestOrphansAreNamesThatAreThere(t *testing.T) {
	s := disk(entry{name: "m1", lost: true}, entry{name: "m2", fresh: true}, entry{name: "t1", lost: true}, entry{name: "l1", lost: true}, of("t2"), entry{name: "l2", fresh: true, data: []byte("x"), loose: 1})
	leaves(t, "names that are gone", s, edit.New(), 9, 9, "l2", "m2", "t2")
}

func TestOrphansOfAnyVersion(t *testing.T) {
	for what, v := range noVersions() {
		s := named("CURRENT", "m3", "l4", "t1", "t2", "t5", "t77")
		want := modelOrphans(s, v, 3, 4)
		leaves(t, what, s, v, 3, 4, want...)
	}
	leaves(t, "a table twice", named("t1", "t2"), tables(1, 1, 1), 3, 4, "t2")
}

func TestOrphansRise(t *testing.T) {
	var names []string
	for i := range 256 {
		names = append(names, string("tlmx"[i%4])+strconv.Itoa(i*37%300))
	}
	l, e := Orphans(named(names...), tables(37, 74), 2, 200)
	if e != api.OK || len(l) < 100 || !slices.IsSorted(l) || len(slices.Compact(slices.Clone(l))) != len(l) {
		t.Errorf("P14.3: Orphans: %s, error %d: they do not rise", brief(l), e)
	}
}

func TestOrphansOfDrawnFiles(t *testing.T) {
	r := rand.New(rand.NewSource(1433))
	pool := slices.DeleteFunc(noNames(), func(name string) bool {
		return name == "" || len(name) > 32 || strings.ContainsFunc(name, func(c rune) bool { return c < 33 || c > 126 })
	})
	for range 1500 {
		taken := map[string]bool{}
		for range r.Intn(40) {
			name := fmt.Sprintf("%c%d", "mlt"[r.Intn(3)], 1+r.Intn(12))
			if r.Intn(5) == 0 {
				name = pool[r.Intn(len(pool))]
			}
			taken[name] = true
		}
		var l []entry
		for name := range taken {
			l = append(l, entry{name: name, lost: r.Intn(9) == 0})
			if !l[len(l)-1].lost {
				l[len(l)-1].fresh = r.Intn(9) == 0
			}
		}
		s := disk(l...)
		var v edit.Version
		for range r.Intn(9) {
			v.Tables = append(v.Tables, table(r.Intn(14)-1, r.Intn(4), "a", "b"))
		}
		id, log := r.Intn(15)-1, r.Intn(15)-1
		leaves(t, "drawn files", s, v, id, log, modelOrphans(s, v, id, log)...)
	}
}

func TestOrphansBehindBegin(t *testing.T) {
	for where, s := range grounds() {
		l, _ := Begin(s, levels(), 3)
		f := done(t, s, l)
		left, e := Orphans(f, levels(), 3, 5)
		if e != api.OK || !slices.Equal(left, modelOrphans(f, levels(), 3, 5)) || slices.Contains(left, "next") {
			t.Errorf("P14.3: Orphans behind Begin on %s: %s, error %d", where, brief(left), e)
		}
		for _, name := range left {
			f = done(t, f, []api.Act{{What: 5, Name: name}})
		}
		tells(t, "orphans removed, "+where, f, levels(), 3)
		leaves(t, "orphans removed, "+where, f, levels(), 3, 5)
	}
}
