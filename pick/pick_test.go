package pick

import (
	"fmt"
	"slices"
	"testing"

	"tickler/api"
	"tickler/edit"
)

// P12.1: Full

func TestExample(t *testing.T) {
	v := example()
	if l, e := Full(v); e != api.OK || !slices.Equal(l, []int{0}) {
		t.Errorf("P12.1: Full of the example: %v, error %d", l, e)
	}
	// b to m is touched: a to b and f to g, but not n to o.
	if l, e := Touch(v, 1, "b", "m"); e != api.OK || !slices.Equal(l, []int{7, 1}) {
		t.Errorf("P12.1: Touch of the example: %v, error %d", l, e)
	}
	want := Plan{Level: 0, Inputs: []int{8, 6, 5, 2, 7, 1}, Bottom: true}
	if p, ok, e := Choose(v); e != api.OK || !ok || !samePlan(p, want) {
		t.Errorf("P12.2: Choose of the example: %v, %t, error %d", p, ok, e)
	}
}

// fullIs fails unless Full of v tells these levels.
func fullIs(t *testing.T, what string, v edit.Version, want ...int) {
	t.Helper()
	if l, e := Full(v); e != api.OK || !slices.Equal(l, want) {
		t.Errorf("P12.1: Full, %s: %v, error %d; want %v", what, l, e, want)
	}
}

func TestRefused(t *testing.T) {
	for what, v := range unmade() {
		if l, e := Full(v); e != api.ErrState || len(l) != 0 {
			t.Errorf("P12.1: Full, %s: %v, error %d", what, l, e)
		}
		if p, ok, e := Choose(v); e != api.ErrState || ok || !samePlan(p, Plan{}) {
			t.Errorf("P12.2: Choose, %s: %v, %t, error %d", what, p, ok, e)
		}
		for _, level := range []int{-1, 0, 1, 2, 3, 4} {
			if l, e := Touch(v, level, "\x00", "\xff"); e != api.ErrState || len(l) != 0 {
				t.Errorf("P12.1: Touch, %s, level %d: %v, error %d", what, level, l, e)
			}
			if l, e := Touch(v, level, "b", "a"); e != api.ErrState || len(l) != 0 {
				t.Errorf("P12.1: Touch, %s, level %d, low above high: %v, error %d", what, level, l, e)
			}
		}
	}
}

func TestFullOfNoTables(t *testing.T) {
	fullIs(t, "new", edit.New())
	fullIs(t, "an empty list", edit.Version{Tables: []edit.Meta{}, Seq: 1 << 40, Next: lastID})
}

// Level 0 goes by its tables, however many versions they have.
func TestFullOfLevel0(t *testing.T) {
	for _, count := range []int{1, 128, 513, 4096} {
		for _, n := range []int{0, 1, 2, 3, 4, 5, 6, 255, 256} {
			var want []int
			if n >= 4 {
				want = []int{0}
			}
			what := fmt.Sprint(n, " tables of level 0 with ", count)
			fullIs(t, what, of(row(1, 0, shared(n*count, n)...)...), want...)
		}
	}
}

// The others go by their versions, in however many tables they stand.
func TestFullByVersions(t *testing.T) {
	for level, room := range map[int]int{1: 128, 2: 512} {
		for _, sum := range []int{1, 4, 5, 127, 128, 129, 130, 511, 512, 513, 514, 4096} {
			for _, n := range []int{1, 2, 3, 4, 5, 100, 256} {
				if n > sum {
					continue
				}
				var want []int
				if sum > room {
					want = []int{level}
				}
				what := fmt.Sprint(sum, " versions of level ", level, " in ", n, " tables")
				fullIs(t, what, of(row(1, level, shared(sum, n)...)...), want...)
			}
		}
	}
}

func TestFullOfUnevenTables(t *testing.T) {
	fullIs(t, "1 and 127", of(row(1, 1, 1, 127)...))
	fullIs(t, "1 and 128", of(row(1, 1, 1, 128)...), 1)
	fullIs(t, "128 and 1", of(row(1, 1, 128, 1)...), 1)
	fullIs(t, "511 and 1", of(row(1, 2, 511, 1)...))
	fullIs(t, "511, 1 and 1", of(row(1, 2, 511, 1, 1)...), 2)
	fullIs(t, "all at most on level 1", of(row(1, 1, shared(256*4096, 256)...)...), 1)
	fullIs(t, "all at most on level 2", of(row(1, 2, shared(256*4096, 256)...)...), 2)
}

func TestLevel3IsNeverFull(t *testing.T) {
	for _, n := range []int{1, 3, 4, 5, 255, 256} {
		fullIs(t, fmt.Sprint(n, " of level 3"), of(row(1, 3, shared(4096*n, n)...)...))
	}
}

// What one level has does not count for another.
func TestFullOfSeveral(t *testing.T) {
	below := [4][]int{{4096, 4096, 4096}, {64, 64}, {500, 12}, {4096}}
	above := [4][]int{{1, 1, 1, 1}, {64, 65}, {500, 13}, {4096, 4096, 4096, 4096, 4096}}
	for bits := range 16 {
		var tables []edit.Meta
		var want []int
		for level := range 4 {
			counts := below[level]
			if bits>>level&1 == 1 {
				counts = above[level]
			}
			if bits>>level&1 == 1 && level < 3 {
				want = append(want, level)
			}
			tables = append(tables, row(1+10*level, level, counts...)...)
		}
		fullIs(t, fmt.Sprintf("levels by bits %04b", bits), of(tables...), want...)
	}
}
