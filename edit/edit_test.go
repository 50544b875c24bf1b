package edit

import (
	"fmt"
	"math"
	"slices"
	"testing"

	"tickler/api"
)

// P11.1: New, Check

func TestNew(t *testing.T) {
	v := New()
	if len(v.Tables) != 0 || v.Seq != 0 || v.Next != 1 {
		t.Errorf("P11.1: New(): %v", v)
	}
	if e := Check(v); e != api.OK {
		t.Errorf("P11.1: Check(New()): error %d", e)
	}
}

func TestExample(t *testing.T) {
	one, two := table(1, 1, "a", "c"), table(2, 1, "b", "d")
	if e := Check(of(one, two)); e != api.ErrState {
		t.Errorf("P11.1: Check of two of level 1 with b and c in common: error %d", e)
	}
	v, e := Apply(New(), Edit{Add: []Meta{one}, Next: 3})
	if e != api.OK || !sameVersion(v, Version{Tables: []Meta{one}, Next: 3}) {
		t.Fatalf("P11.1: Apply of the first: %v, error %d", v, e)
	}
	if w, e := Apply(v, Edit{Add: []Meta{two}, Next: 3}); e != api.ErrState || !noVersion(w) {
		t.Errorf("P11.1: Apply of the second: %v, error %d", w, e)
	}
	two.Level = 0
	if w, e := Apply(v, Edit{Add: []Meta{two}, Next: 3}); e != api.OK || !slices.Equal(w.Tables, []Meta{two, one}) {
		t.Errorf("P11.1: Apply of the second on level 0: %v, error %d", w, e)
	}
}

func TestCheckTakes(t *testing.T) {
	for what, v := range versions() {
		if e := Check(v); e != api.OK {
			t.Errorf("P11.1: Check, %s: error %d", what, e)
		}
	}
}

func TestCheckRefuses(t *testing.T) {
	for what, v := range unmade() {
		if e := Check(v); e != api.ErrState {
			t.Errorf("P11.1: Check, %s: error %d, want ErrState", what, e)
		}
	}
}

// checked fails unless a version of just that meta (with another next ID, if it is told) is taken, or is not.
func checked(t *testing.T, what string, v Version, may bool) {
	t.Helper()
	want := api.ErrState
	if may {
		want = api.OK
	}
	if e := Check(v); e != want {
		t.Errorf("P11.1: Check, %s: error %d, want %d", what, e, want)
	}
}

func TestNumbersOfAMeta(t *testing.T) {
	for _, c := range []struct {
		n                int
		id, level, count bool
	}{
		{math.MinInt, false, false, false}, {-1 << 32, false, false, false}, {-1, false, false, false},
		{0, false, true, false}, {1, true, true, true}, {2, true, true, true}, {3, true, true, true},
		{4, true, false, true}, {5, true, false, true}, {4095, true, false, true}, {4096, true, false, true},
		{4097, true, false, false}, {lastID - 1, true, false, false}, {lastID, false, false, false},
		{lastID + 1, false, false, false}, {1<<32 + 1, false, false, false}, {lastSeq, false, false, false}, {math.MaxInt, false, false, false},
	} {
		checked(t, fmt.Sprint("ID ", c.n), of(Meta{c.n, 2, 1, "a", "b"}), c.id)
		checked(t, fmt.Sprint("Level ", c.n), of(Meta{1, c.n, 1, "a", "b"}), c.level)
		checked(t, fmt.Sprint("Count ", c.n), of(Meta{1, 2, c.n, "a", "b"}), c.count)
	}
}

// An ID of 2^31 - 1 may be a meta's, but no Next that may be is above it.
func TestTheLastID(t *testing.T) {
	for _, next := range []int{lastID - 1, lastID, lastID + 1, math.MaxInt} {
		for _, id := range []int{lastID - 2, lastID - 1, lastID, lastID + 1} {
			v := Version{Tables: []Meta{table(id, 3, "a", "b")}, Next: next}
			checked(t, fmt.Sprint("ID ", id, ", Next ", next), v, id < next && next <= lastID)
		}
	}
}

func TestTextsOfAMeta(t *testing.T) {
	for _, low := range []int{0, 1, 2, 95, 96, 97, 98, 1000} {
		for _, high := range []int{0, 1, 2, 95, 96, 97, 98, 1000} {
			may := low >= 1 && low <= high && high <= 96
			checked(t, fmt.Sprint("Low of ", low, ", High of ", high), of(table(1, 1, long(low), long(high))), may)
		}
	}
	for _, c := range []struct {
		low, high string
		may       bool
	}{
		{"a", "a", true}, {"a", "b", true}, {"b", "a", false}, {"a", "a\x00", true}, {"a\x00", "a", false},
		{"\x7f", "\x80", true}, {"\x80", "\x7f", false}, {"\xff", "\xff", true}, {"\x00", "\xff", true}, {"b", "ab", false}, {"ab", "b", true},
	} {
		checked(t, fmt.Sprintf("from %q to %q", c.low, c.high), of(table(1, 0, c.low, c.high)), c.may)
		checked(t, fmt.Sprintf("from %q to %q, level 3", c.low, c.high), of(table(1, 3, c.low, c.high)), c.may)
	}
}

func TestNumbersOfAVersion(t *testing.T) {
	for _, c := range []struct {
		n         int
		seq, next bool
	}{
		{math.MinInt, false, false}, {-1, false, false}, {0, true, false}, {1, true, true}, {lastID - 1, true, true}, {lastID, true, true},
		{lastID + 1, true, false}, {lastSeq - 1, true, false}, {lastSeq, true, false}, {lastSeq + 1, false, false}, {math.MaxInt, false, false},
	} {
		checked(t, fmt.Sprint("Seq ", c.n), Version{Seq: c.n, Next: 1}, c.seq)
		checked(t, fmt.Sprint("Next ", c.n), Version{Next: c.n}, c.next)
	}
}

func TestHowManyTables(t *testing.T) {
	for level := range 4 {
		for _, n := range []int{0, 1, 255, 256, 257, 300} {
			checked(t, fmt.Sprint(n, " on level ", level), of(row(n, 1, level)...), n <= 256)
		}
	}
}

// The High of one is below the Low of the next; on level 0 all may be.
func TestNeighbours(t *testing.T) {
	for _, c := range []struct {
		high, low string
		may       bool
	}{
		{"c", "d", true}, {"c", "c", false}, {"c", "b", false}, {"c", "c\x00", true}, {"c\x00", "c", false}, {"c\xff", "d", true}, {"d", "c\xff", false}, {"\x7f", "\x80", true}, {"\x80", "\x7f", false}, {long(96), long(95) + "l", true}, {long(96), long(96), false},
	} {
		for level := range 4 {
			first, then := table(2, level, "\x01", c.high), table(1, level, c.low, "\xff")
			what := fmt.Sprintf("level %d, High %q, Low %q", level, c.high, c.low)
			checked(t, what, of(first, then), c.may || level == 0)
			checked(t, what+", the other way round", of(then, first), false)
			then.Level = level + 1
			checked(t, what+", the other a level below", of(first, then), level < 3)
		}
	}
}

// A table that goes over several of its level is found whatever stands between.
func TestOneOverSeveral(t *testing.T) {
	for level := range 4 {
		v := of(table(5, level, "a", "z"), table(4, level, "b", "c"), table(3, level, "d", "e"))
		checked(t, fmt.Sprint("the first over the others, level ", level), v, level == 0)
		v = of(table(5, level, "a", "b"), table(4, level, "c", "e"), table(3, level, "d", "d"))
		checked(t, fmt.Sprint("the second over the third, level ", level), v, level == 0)
	}
}

// P11.2: Whole, At; P11.4

func TestWholeAndAt(t *testing.T) {
	for what, v := range versions() {
		asked(t, what, v)
	}
	for what, v := range unmade() {
		asked(t, what, v)
	}
}

func TestWholeOfLevels(t *testing.T) {
	v := levels()
	e, why := Whole(v)
	if why != api.OK || len(e.Drop) != 0 || e.Seq != 1000 || e.Next != 10 || !slices.Equal(e.Add, v.Tables) {
		t.Errorf("P11.2: Whole: %v, error %d", e, why)
	}
	if w, why := Apply(New(), e); why != api.OK || !sameVersion(w, v) {
		t.Errorf("P11.4: Apply of Whole to New(): %v, error %d", w, why)
	}
}

func TestAtOfLevels(t *testing.T) {
	for level, ids := range map[int][]int{-1: nil, 0: {9, 8, 3}, 1: {5, 1, 6}, 2: {7}, 3: {2, 4}, 4: nil} {
		l, e := At(levels(), level)
		var got []int
		for _, m := range l {
			got = append(got, m.ID)
		}
		if e != api.OK || !slices.Equal(got, ids) {
			t.Errorf("P11.2: At(%d): %v, error %d; want the IDs %v", level, l, e, ids)
		}
	}
	for _, level := range []int{-1, 0, 1, 4} {
		if l, e := At(of(table(1, 1, "b", "a")), level); e != api.ErrState || len(l) != 0 {
			t.Errorf("P11.2: At(%d) of a version that may not be: %v, error %d", level, l, e)
		}
	}
}

// Whole of every version has octets, and they tell it.
func TestWholeHasOctets(t *testing.T) {
	for what, v := range versions() {
		e, _ := Whole(v)
		b, _ := Encode(e)
		back, _ := Decode(b)
		if w, why := Apply(New(), back); why != api.OK || !sameVersion(w, v) {
			t.Errorf("P11.4: %s: Apply of Whole's octets to New(): %v, error %d", what, w, why)
		}
	}
}
