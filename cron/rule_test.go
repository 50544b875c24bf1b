package cron

import (
	"math/rand"
	"testing"

	"tickler/api"
)

// P17.1: Check

func TestCheckOfRulesThatMayBe(t *testing.T) {
	l := append(someRules(5000), every())
	for i, s := range spans() {
		for bit := s.low; bit <= s.high; bit++ {
			l = append(l, withSet(every(), i, 1<<bit))
		}
	}
	for _, r := range l {
		if e := Check(r); e != api.OK || !modelCheck(r) {
			t.Errorf("P17.1: Check(%v): %d", r, e)
		}
	}
}

func TestCheckRefuses(t *testing.T) {
	for _, r := range wrongRules() {
		if e := Check(r); e != api.ErrState || modelCheck(r) {
			t.Errorf("P17.1: Check(%v): %d", r, e)
		}
	}
	for _, r := range []Rule{
		withSet(every(), 0, 1<<60), withSet(every(), 1, 1<<24), withSet(every(), 2, 1), withSet(every(), 2, 1<<32), withSet(every(), 2, 3),
		withSet(every(), 3, 1), withSet(every(), 3, 1<<13), withSet(every(), 3, 3), withSet(every(), 4, 1<<7), withSet(every(), 4, 1<<7|1), withSet(every(), 0, 1<<63),
	} {
		if e := Check(r); e != api.ErrState {
			t.Errorf("P17.1: Check(%v): %d", r, e)
		}
	}
}

func TestCheckOfTheMarks(t *testing.T) {
	for _, just := range [][2]bool{{false, false}, {true, false}, {false, true}, {true, true}} {
		r := every()
		r.AnyDay, r.AnyWeekday = just[0], just[1]
		if e := Check(r); e != api.OK {
			t.Errorf("P17.1: Check(%v): %d", r, e)
		}
	}
	for i, s := range spans() {
		if i != 2 && i != 4 {
			continue
		}
		for bit := s.low; bit <= s.high; bit++ {
			less := setAt(every(), i) &^ (1 << bit)
			for _, r := range []Rule{marked(every(), i, less), marked(every(), i, 1<<bit), marked(someRules(1)[0], i, less)} {
				if e := Check(r); e != api.ErrState {
					t.Errorf("P17.1: Check(%v): %d", r, e)
				}
			}
			if e := Check(withSet(every(), i, less)); e != api.OK {
				t.Errorf("P17.1: Check(%v): %d", withSet(every(), i, less), e)
			}
		}
	}
}

func TestCheckOfAnySets(t *testing.T) {
	rng := rand.New(rand.NewSource(172))
	for _, r := range someRules(100000) {
		i := rng.Intn(5)
		r = withSet(r, i, setAt(r, i)^1<<rng.Intn(64))
		r.AnyDay, r.AnyWeekday = rng.Intn(4) == 0, rng.Intn(4) == 0
		if e := Check(r); (e == api.OK) != modelCheck(r) || e != api.OK && e != api.ErrState {
			t.Errorf("P17.1: Check(%v): %d", r, e)
		}
	}
}

// P17.1: Comes

// comes holds Comes of a text's rule at a second.
func comes(t *testing.T, s string, at int, want bool) {
	t.Helper()
	r, _ := Parse(s)
	if ok, e := Comes(r, at); ok != want || e != api.OK {
		t.Errorf("P17.1: Comes(%q, %s): %t, error %d; want %t", s, whenText(at), ok, e, want)
	}
}

func TestComesByHand(t *testing.T) {
	noon := second(2026, 11, 19, 12, 0, 0) // a Thursday
	comes(t, "* * * * *", noon, true)
	comes(t, "0 12 19 11 4", noon, true)
	comes(t, "0 12 * 11 *", noon, true)
	comes(t, "1 12 * * *", noon, false)
	comes(t, "0 11 * * *", noon, false)
	comes(t, "0 12 * 10 *", noon, false)
	comes(t, "1-59 * * * *", noon, false)
	for s := 1; s < 60; s++ {
		comes(t, "* * * * *", noon+s, false)
		comes(t, "* * * * *", noon-s, false)
	}
	comes(t, "* * * * *", noon+60, true)
	comes(t, "* * * * *", noon-60, true)
	comes(t, "1 12 * * *", noon+60, true)
	comes(t, "59 11 * * *", noon-60, true)
}

func TestComesInTheFourCasesOfTheDays(t *testing.T) {
	noon := second(2026, 11, 19, 12, 0, 0) // Thursday: 4
	comes(t, "0 12 * * *", noon, true)
	comes(t, "0 12 19 * *", noon, true)
	comes(t, "0 12 18 * *", noon, false)
	comes(t, "0 12 * * 4", noon, true)
	comes(t, "0 12 * * 5", noon, false)
	comes(t, "0 12 19 * 4", noon, true)
	comes(t, "0 12 19 * 5", noon, true)
	comes(t, "0 12 18 * 4", noon, true)
	comes(t, "0 12 18 * 5", noon, false)
	// All days, but not any: the other one makes no difference any more.
	comes(t, "0 12 1-31 * 5", noon, true)
	comes(t, "0 12 18 * 0-6", noon, true)
	comes(t, "0 12 */1 * *", noon, true)
	comes(t, "0 12 18 * */1", noon, true)
	comes(t, "0 12 18 10 4", noon, false)
	comes(t, "0 11 19 11 4", noon, false)
	sunday := second(2026, 11, 22, 0, 0, 0)
	comes(t, "* * * * 7", sunday, true)
	comes(t, "* * * * 0", sunday, true)
	comes(t, "* * * * 1-6", sunday, false)
}

func TestComesAtTheEnds(t *testing.T) {
	comes(t, "* * * * *", 0, true)
	comes(t, "0 0 1 1 4", 0, true)
	comes(t, "0 0 * * 4", 0, true)
	comes(t, "0 0 * * 3", 0, false)
	comes(t, "* * * * *", api.MaxTime-60, true)
	comes(t, "59 23 31 12 2", api.MaxTime-60, true)
	comes(t, "59 23 31 12 *", api.MaxTime-1, false)
	r := every()
	for _, at := range append(farNumbers(), -1) {
		if ok, e := Comes(r, at); ok || e != api.ErrRange {
			t.Errorf("P17.1: Comes at %d: %t, error %d", at, ok, e)
		}
	}
}

func TestComesRefusesRules(t *testing.T) {
	for _, r := range wrongRules() {
		for _, at := range append(farNumbers(), -1, 0, 60, api.MaxTime-1) {
			if ok, e := Comes(r, at); ok || e != api.ErrState {
				t.Errorf("P17.1: Comes(%v, %d): %t, error %d", r, at, ok, e)
			}
		}
	}
}

func TestComesAtAnySecond(t *testing.T) {
	rng := rand.New(rand.NewSource(173))
	count := 0
	for _, r := range someRules(2000) {
		for range 100 {
			at := rng.Intn(api.MaxTime)
			if rng.Intn(4) > 0 {
				at -= at % 60
			}
			ok, e := Comes(r, at)
			if ok != modelComes(r, at) || e != api.OK {
				t.Fatalf("P17.1: Comes(%v, %s): %t, error %d", r, whenText(at), ok, e)
			}
			if ok {
				count++
			}
		}
	}
	if count < 1000 {
		t.Errorf("P17.1: rules came only %d times", count)
	}
}

// P17.2: Print

func TestPrintByHand(t *testing.T) {
	allDays := "1,2,3,4,5,6,7,8,9,10,11,12,13,14,15,16,17,18,19,20,21,22,23,24,25,26,27,28,29,30,31"
	for _, c := range [][2]string{
		{"* * * * *", "* * * * *"},
		{"*/1 0-23 * 1-12 *", "* * * * *"},
		{"*/20 1-5/2 * * 7", "0,20,40 1,3,5 * * 0"},
		{"0 12 29 2 *", "0 12 29 2 *"},
		{"09 05 01 03 07", "9 5 1 3 0"},
		{"59,0 23,1 31,1 12,1 6,1", "0,59 1,23 1,31 1,12 1,6"},
		{"1 2 1-31 4 *", "1 2 " + allDays + " 4 *"},
		{"1 2 * 4 0-6", "1 2 * 4 0,1,2,3,4,5,6"},
		{"1 2 */1 4 */1", "1 2 " + allDays + " 4 0,1,2,3,4,5,6"},
		{"* 1-23 2-31 2-12 1-6", "* 1,2,3,4,5,6,7,8,9,10,11,12,13,14,15,16,17,18,19,20,21,22,23 " + allDays[2:] + " 2,3,4,5,6,7,8,9,10,11,12 1,2,3,4,5,6"},
		{"*/15 * 1-30 */6 1-5", "0,15,30,45 * " + allDays[:len(allDays)-3] + " 1,7 1,2,3,4,5"},
	} {
		r, _ := Parse(c[0])
		if s, e := Print(r); s != c[1] || e != api.OK {
			t.Errorf("P17.2: Print of %q: %q, error %d; want %q", c[0], s, e, c[1])
		}
	}
}

func TestPrintRefuses(t *testing.T) {
	for _, r := range wrongRules() {
		if s, e := Print(r); s != "" || e != api.ErrState {
			t.Errorf("P17.2: Print(%v): %q, error %d", r, s, e)
		}
	}
}
