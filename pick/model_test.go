package pick

import (
	"fmt"
	"math"
	"math/rand"
	"slices"
	"strings"
	"testing"

	"tickler/api"
	"tickler/edit"
)

// lastID is the highest next ID that a version may have.
const lastID = 2147483647

// meta: a table with so many versions.
func meta(id, level, count int, low, high string) edit.Meta {
	return edit.Meta{ID: id, Level: level, Count: count, Low: low, High: high}
}

// table: a table of one version.
func table(id, level int, low, high string) edit.Meta {
	return meta(id, level, 1, low, high)
}

// of: a version of these tables, with a next ID above all that may be.
func of(tables ...edit.Meta) edit.Version {
	return edit.Version{Tables: tables, Seq: 7, Next: lastID}
}

// long: a text of n octets.
func long(n int) string {
	return strings.Repeat("k", n)
}

// row: a table of a level for each of the counts, from an ID on, none with a key in common with another.
func row(id, level int, counts ...int) []edit.Meta {
	var l []edit.Meta
	for i, count := range counts {
		low := fmt.Sprintf("%03d", i)
		l = append(l, meta(id+i, level, count, low, low+"z"))
	}
	if level == 0 {
		slices.Reverse(l)
	}
	return l
}

// shared: a number as a sum of n numbers, as even as may be.
func shared(sum, n int) []int {
	var l []int
	for i := range n {
		l = append(l, sum/n)
		if i < sum%n {
			l[i]++
		}
	}
	return l
}

// levels: a version with tables on all levels; no level is full.
func levels() edit.Version {
	return edit.Version{
		Tables: []edit.Meta{
			table(9, 0, "a", "z"), table(8, 0, "b", "y"), table(3, 0, "a", "z"),
			meta(5, 1, 60, "a", "c"), meta(1, 1, 60, "d", "d"), meta(6, 1, 8, "da", "e"),
			meta(7, 2, 512, "a", "z"),
			meta(2, 3, 4096, "0", "9"), meta(4, 3, 4096, "a", "z"),
		},
		Seq: 1000, Next: 10,
	}
}

// versions: versions that may be.
func versions() map[string]edit.Version {
	return map[string]edit.Version{
		"new":                    edit.New(),
		"an empty list":          {Tables: []edit.Meta{}, Seq: 1, Next: 2},
		"all at most":            {Seq: 1 << 40, Next: lastID},
		"no level is full":       levels(),
		"one":                    of(table(1, 0, "a", "b")),
		"one of level 3":         of(meta(lastID-1, 3, 4096, long(96), long(96))),
		"the example":            example(),
		"four the same":          of(table(4, 0, "a", "b"), table(3, 0, "a", "b"), table(2, 0, "a", "b"), table(1, 0, "a", "b")),
		"256 of level 0":         of(row(1, 0, shared(256, 256)...)...),
		"256 of level 1":         of(row(1, 1, shared(256*4096, 256)...)...),
		"256 of level 2":         of(row(1, 2, shared(256*3+9, 256)...)...),
		"256 of level 3":         of(row(1, 3, shared(256*4096, 256)...)...),
		"one of level 1":         of(meta(1, 1, 129, "a", "b")),
		"one of level 2":         of(meta(1, 2, 513, "a", "b")),
		"levels 1 and 2 full":    of(slices.Concat(row(1, 1, 60, 69, 1), row(4, 2, 1, 511, 1), row(7, 3, 5, 5, 5))...),
		"three levels full":      of(slices.Concat(row(1, 0, 1, 1, 1, 1, 1), row(11, 1, 1, 128), row(21, 2, 512, 512), row(31, 3, 4096))...),
		"octets on level 1":      of(meta(1, 1, 43, "\x00", "\x7f"), meta(2, 1, 43, "\x80", "\xc3"), meta(3, 1, 43, "\xff", "\xff\xff"), table(4, 2, "\x7f\x01", "\x80")),
		"one key on each level":  of(table(4, 0, "a", "a"), table(3, 0, "a", "a"), table(2, 0, "a", "a"), table(1, 0, "a", "a"), table(5, 1, "a", "a"), table(6, 2, "a", "a"), table(7, 3, "a", "a")),
		"level 1 by Low, not ID": of(meta(9, 1, 50, "a", "b"), meta(3, 1, 60, "c", "d"), meta(5, 1, 60, "e", "f"), table(8, 2, "c", "c"), table(2, 2, "d", "e")),
	}
}

// example: a version as the chapter's example has it.
func example() edit.Version {
	return of(table(8, 0, "k", "m"), table(6, 0, "b", "d"), table(5, 0, "c", "e"), table(2, 0, "k", "l"),
		table(7, 1, "a", "b"), table(1, 1, "f", "g"), table(4, 1, "n", "o"), table(3, 2, "p", "q"))
}

// unmade: versions that may not be; each has full levels, and one thing is wrong.
func unmade() map[string]edit.Version {
	four := row(1, 0, 1, 1, 1, 1)
	with := func(tables ...edit.Meta) edit.Version { return of(slices.Concat(four, tables)...) }
	return map[string]edit.Version{
		"zero":                      {},
		"Next 0":                    {Tables: four},
		"Next at most":              {Tables: four, Next: math.MaxInt},
		"Seq -1":                    {Tables: four, Seq: -1, Next: 9},
		"Seq 2^40 + 1":              {Tables: four, Seq: 1<<40 + 1, Next: 9},
		"an ID equal to Next":       {Tables: four, Next: 4},
		"ID 0":                      of(row(0, 0, 1, 1, 1, 1)...),
		"one ID twice":              with(table(3, 1, "a", "b")),
		"Level -1":                  with(table(9, -1, "a", "b")),
		"Level 4":                   with(table(9, 4, "a", "b")),
		"Count 0":                   with(meta(9, 1, 0, "a", "b")),
		"Count 4097":                with(meta(9, 1, 4097, "a", "b")),
		"Count at most":             with(meta(8, 1, math.MaxInt, "a", "b"), meta(9, 1, math.MaxInt, "c", "d")),
		"no Low":                    with(table(9, 1, "", "b")),
		"Low of 97":                 with(table(9, 1, long(97), "z")),
		"High of 97":                with(table(9, 1, "a", long(97))),
		"Low above High":            with(table(9, 1, "b", "a")),
		"level 0 rising":            of(table(1, 0, "a", "b"), table(2, 0, "a", "b"), table(3, 0, "a", "b"), table(4, 0, "a", "b")),
		"level 1 ahead of 0":        of(slices.Concat(row(9, 1, 200), four)...),
		"a key in common, level 1":  with(meta(8, 1, 100, "a", "c"), meta(9, 1, 100, "c", "d")),
		"a key in common, level 3":  with(table(8, 3, "a", "c"), table(9, 3, "b", "d")),
		"out of order on level 2":   with(meta(8, 2, 400, "c", "d"), meta(9, 2, 400, "a", "b")),
		"257 of level 1":            of(row(1, 1, shared(257, 257)...)...),
		"257 on levels 0 and 1":     with(row(9, 1, shared(253, 253)...)...),
		"wrong on level 3 alone":    with(meta(8, 2, 600, "a", "b"), meta(9, 3, 1, "z", "y")),
		"a zero meta among the six": with(edit.Meta{}, meta(9, 1, 200, "a", "b")),
	}
}

// modelAt: the tables of a level.
func modelAt(v edit.Version, level int) []edit.Meta {
	var l []edit.Meta
	for _, m := range v.Tables {
		if m.Level == level {
			l = append(l, m)
		}
	}
	return l
}

// modelTouches: have the two spans one of their four ends in common?
func modelTouches(m edit.Meta, low, high string) bool {
	for _, key := range []string{m.Low, m.High, low, high} {
		if strings.Compare(m.Low, key) != 1 && strings.Compare(key, m.High) != 1 && strings.Compare(low, key) != 1 && strings.Compare(key, high) != 1 {
			return true
		}
	}
	return false
}

// modelTouch: what Touch should answer.
func modelTouch(v edit.Version, level int, low, high string) ([]int, api.Errno) {
	if why := edit.Check(v); why != api.OK {
		return nil, why
	}
	var l []int
	for _, m := range modelAt(v, level) {
		if modelTouches(m, low, high) {
			l = append(l, m.ID)
		}
	}
	return l, api.OK
}

// modelFull: what Full should answer.
func modelFull(v edit.Version) ([]int, api.Errno) {
	if why := edit.Check(v); why != api.OK {
		return nil, why
	}
	var tables, count [4]int
	for _, m := range v.Tables {
		tables[m.Level]++
		count[m.Level] += m.Count
	}
	var l []int
	for level, full := range []bool{tables[0] > 3, count[1] >= 129, count[2] >= 513} {
		if full {
			l = append(l, level)
		}
	}
	return l, api.OK
}

// modelEnds: the first and the last of all the tables' texts, in order.
func modelEnds(tables []edit.Meta) (string, string) {
	var l []string
	for _, m := range tables {
		l = append(l, m.Low, m.High)
	}
	slices.Sort(l)
	return l[0], l[len(l)-1]
}

// modelChoose: what Choose should answer.
func modelChoose(v edit.Version) (Plan, bool, api.Errno) {
	full, why := modelFull(v)
	if why != api.OK || len(full) == 0 {
		return Plan{}, false, why
	}
	p := Plan{Level: full[0], Bottom: true}
	inputs := modelAt(v, p.Level)
	if p.Level > 0 {
		slices.SortStableFunc(inputs, func(a, b edit.Meta) int { return b.Count - a.Count })
		inputs = inputs[:1]
	}
	low, high := modelEnds(inputs)
	for _, m := range modelAt(v, p.Level+1) {
		if modelTouches(m, low, high) {
			inputs = append(inputs, m)
		}
	}
	low, high = modelEnds(inputs)
	for _, m := range inputs {
		p.Inputs = append(p.Inputs, m.ID)
	}
	for _, m := range v.Tables {
		if m.Level > p.Level+1 && modelTouches(m, low, high) {
			p.Bottom = false
		}
	}
	return p, true, api.OK
}

// samePlan tells whether two plans are the same; nil and empty lists are one.
func samePlan(a, b Plan) bool {
	return a.Level == b.Level && a.Bottom == b.Bottom && slices.Equal(a.Inputs, b.Inputs)
}

// drawn: a version that may be, with few keys, so that tables often touch, and counts near the edges.
func drawn(r *rand.Rand) edit.Version {
	ids := r.Perm(40)
	var tables []edit.Meta
	for level := range 4 {
		n := r.Intn(7) * r.Intn(3) / 2
		var cuts []string
		for range 2 * n {
			cuts = append(cuts, drawnText(r))
		}
		if level > 0 {
			slices.Sort(cuts)
			cuts = slices.Compact(cuts)
		}
		for i := 0; i+1 < len(cuts); i += 2 {
			low, high := min(cuts[i], cuts[i+1]), max(cuts[i], cuts[i+1])
			tables = append(tables, meta(ids[len(tables)]+1, level, drawnCount(r, level), low, high))
		}
		if level == 0 {
			slices.SortFunc(tables, func(a, b edit.Meta) int { return b.ID - a.ID })
		}
	}
	return of(tables...)
}

// drawnText: a short one of few octets.
func drawnText(r *rand.Rand) string {
	octets := "\x00bcdefghi\xff"
	s := string(octets[r.Intn(len(octets))])
	if r.Intn(2) == 0 {
		s += string(octets[r.Intn(len(octets))])
	}
	return s
}

// drawnCount: how many versions a table has, so that its level is now full and now is not, and several have as many.
func drawnCount(r *rand.Rand, level int) int {
	few := [4][]int{{1, 4096}, {1, 30, 40, 43}, {1, 128, 129, 256}, {1, 4096}}
	return few[level][r.Intn(len(few[level]))]
}

// asked holds what Full, Choose and Touch tell of v against the model.
func asked(t *testing.T, what string, v edit.Version) {
	t.Helper()
	l, e := Full(v)
	if want, why := modelFull(v); e != why || !slices.Equal(l, want) {
		t.Errorf("P12.1: Full, %s: %v, error %d; want %v, error %d", what, l, e, want, why)
	}
	p, ok, e := Choose(v)
	if want, is, why := modelChoose(v); e != why || ok != is || !samePlan(p, want) {
		t.Errorf("P12.2: Choose, %s: %v, %t, error %d; want %v, %t, error %d", what, p, ok, e, want, is, why)
	}
	for level := -1; level < 5; level++ {
		for _, low := range []string{"", "a", "c", "fz", long(97)} {
			for _, high := range []string{"", "a", "c\x00", "g", long(97), "\xff\xff"} {
				touches(t, what, v, level, low, high)
			}
		}
	}
}

// touches holds what Touch tells against the model.
func touches(t *testing.T, what string, v edit.Version, level int, low, high string) {
	t.Helper()
	l, e := Touch(v, level, low, high)
	if want, why := modelTouch(v, level, low, high); e != why || !slices.Equal(l, want) {
		t.Errorf("P12.1: Touch, %s, level %d from %q to %q: %v, error %d; want %v, error %d", what, level, low, high, l, e, want, why)
	}
}

func TestTheVersionsAreAsTold(t *testing.T) {
	for what, v := range versions() {
		if e := edit.Check(v); e != api.OK {
			t.Errorf("%s may not be: error %d", what, e)
		}
	}
	for what, v := range unmade() {
		if e := edit.Check(v); e == api.OK {
			t.Errorf("%s may be", what)
		}
	}
}

func TestAllAgainstTheModel(t *testing.T) {
	for what, v := range versions() {
		asked(t, what, v)
	}
	for what, v := range unmade() {
		asked(t, what, v)
	}
}

func TestDrawnAgainstTheModel(t *testing.T) {
	r := rand.New(rand.NewSource(12))
	seen := map[string]int{}
	for i := range 1500 {
		v := drawn(r)
		if e := edit.Check(v); e != api.OK {
			t.Fatalf("drawn version %d may not be: %v", i, v)
		}
		asked(t, fmt.Sprint("drawn ", i, " ", v.Tables), v)
		p, ok, _ := Choose(v)
		seen[fmt.Sprint(ok, p.Level, p.Bottom)]++
	}
	for _, kind := range []string{"false 0 false", "true 0 true", "true 0 false", "true 1 true", "true 1 false", "true 2 true"} {
		if seen[kind] < 20 {
			t.Errorf("too few plans were drawn of the kind %q: %v", kind, seen)
		}
	}
}
