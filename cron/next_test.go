package cron

import (
	"math/rand"
	"testing"
	"time"

	"tickler/api"
)

// next holds Next of a text's rule.
func next(t *testing.T, s string, at, want int) {
	t.Helper()
	r, _ := Parse(s)
	if n, ok, e := Next(r, at); n != want || !ok || e != api.OK {
		t.Errorf("P17.2: Next(%q, %s): %s, %t, error %d; want %s", s, whenText(at), whenText(n), ok, e, whenText(want))
	}
}

// never holds a text's rule to come no more.
func never(t *testing.T, s string, at int) {
	t.Helper()
	r, _ := Parse(s)
	if n, ok, e := Next(r, at); n != 0 || ok || e != api.OK {
		t.Errorf("P17.2: Next(%q, %s): %s, %t, error %d; want none", s, whenText(at), whenText(n), ok, e)
	}
}

// P17.2: Next

func TestNextOfTheChaptersExample(t *testing.T) {
	next(t, "0 12 29 2 *", second(2026, 1, 1, 0, 0, 0), second(2028, 2, 29, 12, 0, 0))
	next(t, "0 12 29 2 *", 1767225600, 1835438400)
}

func TestNextByHand(t *testing.T) {
	at := second(2026, 11, 19, 12, 34, 56) // a Thursday
	next(t, "* * * * *", at, second(2026, 11, 19, 12, 35, 0))
	next(t, "34 * * * *", at, second(2026, 11, 19, 13, 34, 0))
	next(t, "35 * * * *", at, second(2026, 11, 19, 12, 35, 0))
	next(t, "33 12 * * *", at, second(2026, 11, 20, 12, 33, 0))
	next(t, "0 12 * * *", at, second(2026, 11, 20, 12, 0, 0))
	next(t, "0 13 * * *", at, second(2026, 11, 19, 13, 0, 0))
	next(t, "59 23 * * *", at, second(2026, 11, 19, 23, 59, 0))
	next(t, "10,50 6,18 * * *", at, second(2026, 11, 19, 18, 10, 0))
	next(t, "10,50 6,11 * * *", at, second(2026, 11, 20, 6, 10, 0))
	next(t, "0 0 18 * *", at, second(2026, 12, 18, 0, 0, 0))
	next(t, "0 0 19 * *", at, second(2026, 12, 19, 0, 0, 0))
	next(t, "0 0 20 * *", at, second(2026, 11, 20, 0, 0, 0))
	next(t, "0 0 31 * *", at, second(2026, 12, 31, 0, 0, 0))
	next(t, "0 0 1 1 *", at, second(2027, 1, 1, 0, 0, 0))
	next(t, "0 0 * 10 *", at, second(2027, 10, 1, 0, 0, 0))
	next(t, "0 0 * * 4", at, second(2026, 11, 26, 0, 0, 0))
	next(t, "0 0 * * 5", at, second(2026, 11, 20, 0, 0, 0))
	next(t, "0 0 * * 7", at, second(2026, 11, 22, 0, 0, 0))
	next(t, "0 0 * 12 7", at, second(2026, 12, 6, 0, 0, 0))
	next(t, "0 0 13 * 5", at, second(2026, 11, 20, 0, 0, 0))
	next(t, "0 0 20 * 1", at, second(2026, 11, 20, 0, 0, 0))
	next(t, "0 0 1-31 * 1", at, second(2026, 11, 20, 0, 0, 0))
	next(t, "0 0 29 2 1", at, second(2027, 2, 1, 0, 0, 0))
	next(t, "30 1-3 * * *", second(2026, 12, 31, 3, 30, 0), second(2027, 1, 1, 1, 30, 0))
}

func TestNextIsAboveASecondAtWhichItComes(t *testing.T) {
	at := second(2026, 11, 19, 12, 0, 0)
	next(t, "* * * * *", at, at+60)
	next(t, "* * * * *", at-1, at)
	next(t, "* * * * *", at+59, at+60)
	next(t, "0 * * * *", at, at+3600)
	next(t, "0 12 * * *", at, at+86400)
	next(t, "0 12 * * *", at-1, at)
	next(t, "0 12 * * *", at+1, at+86400)
	next(t, "0 12 * * 4", at, at+7*86400)
	next(t, "0 12 19 11 *", at, second(2027, 11, 19, 12, 0, 0))
	next(t, "0 12 19 11 *", at-1, at)
}

func TestNextInLeapYears(t *testing.T) {
	s := "0 0 29 2 *"
	next(t, s, -1, second(1972, 2, 29, 0, 0, 0))
	next(t, s, second(1972, 2, 29, 0, 0, 0), second(1976, 2, 29, 0, 0, 0))
	next(t, s, second(1999, 1, 1, 0, 0, 0), second(2000, 2, 29, 0, 0, 0))
	next(t, s, second(2096, 2, 29, 0, 0, 0), second(2104, 2, 29, 0, 0, 0))
	next(t, s, second(2396, 3, 1, 0, 0, 0), second(2400, 2, 29, 0, 0, 0))
	next(t, s, second(2992, 3, 1, 0, 0, 0), second(2996, 2, 29, 0, 0, 0))
	never(t, s, second(2996, 2, 29, 0, 0, 0))
	r, _ := Parse(s)
	count, at := 0, -1
	for {
		n, ok, _ := Next(r, at)
		if !ok {
			break
		}
		count, at = count+1, n
	}
	// Of 1030 years 257 are divided by 4; of the ten hundreds 2000, 2400 and 2800 stay.
	if want := 257 - 7; count != want {
		t.Errorf("P17.2: %q comes %d times, want %d", s, count, want)
	}
}

func TestNextAtTheEnds(t *testing.T) {
	last := api.MaxTime - 60
	next(t, "* * * * *", -1, 0)
	next(t, "* * * * *", 0, 60)
	next(t, "0 0 1 1 *", -1, 0)
	next(t, "0 0 1 1 *", 0, second(1971, 1, 1, 0, 0, 0))
	next(t, "0 0 * * 3", -1, second(1970, 1, 7, 0, 0, 0))
	next(t, "1 0 1 1 *", -1, 60)
	next(t, "59 23 31 12 *", last-1, last)
	next(t, "59 23 31 12 *", second(2998, 12, 31, 23, 59, 0), last)
	next(t, "* * * * *", last-1, last)
	next(t, "* * * * *", last-60, last)
	next(t, "59 23 31 12 2", second(2999, 12, 31, 23, 58, 59), last)
	for _, at := range []int{last, last + 1, last + 58, api.MaxTime - 1} {
		never(t, "* * * * *", at)
		never(t, "59 23 31 12 *", at)
	}
	never(t, "58 23 31 12 *", last-60)
	next(t, "58 23 31 12 *", last-61, last-60)
	never(t, "59 22 31 12 *", last-1)
	never(t, "* * 30 12 *", second(2999, 12, 30, 23, 59, 0))
	never(t, "* * * 11 *", second(2999, 11, 30, 23, 59, 0))
	never(t, "59 23 * * 1", second(2999, 12, 30, 23, 59, 0))
	next(t, "* * * 12 *", second(2999, 11, 30, 23, 59, 0), second(2999, 12, 1, 0, 0, 0))
	next(t, "0 0 31 12 *", -1, second(1970, 12, 31, 0, 0, 0))
}

func TestNextOfRulesThatNeverCome(t *testing.T) {
	for _, s := range []string{"0 0 30 2 *", "0 0 31 2 *", "* * 30,31 2 *", "* * 31 4 *", "* * 31 2,4,6,9,11 *"} {
		for _, at := range []int{-1, 0, 1, second(2026, 11, 19, 12, 0, 0), api.MaxTime / 2, api.MaxTime - 1} {
			never(t, s, at)
		}
	}
	// With a day of the week it comes all the same.
	next(t, "0 0 30 2 1", second(2026, 1, 1, 0, 0, 0), second(2026, 2, 2, 0, 0, 0))
	next(t, "0 0 31 2,4,5 *", second(2026, 1, 1, 0, 0, 0), second(2026, 5, 31, 0, 0, 0))
}

func TestNextRefuses(t *testing.T) {
	for _, at := range farNumbers() {
		for _, r := range append(someRules(20), every()) {
			if n, ok, e := Next(r, at); n != 0 || ok || e != api.ErrRange {
				t.Errorf("P17.2: Next(%v, %d): %d, %t, error %d", r, at, n, ok, e)
			}
		}
	}
	for _, r := range wrongRules() {
		for _, at := range append(farNumbers(), -1, 0, api.MaxTime-1) {
			if n, ok, e := Next(r, at); n != 0 || ok || e != api.ErrState {
				t.Errorf("P17.2: Next(%v, %d): %d, %t, error %d", r, at, n, ok, e)
			}
		}
	}
}

// walk holds Next to a count minute by minute from one second on to another.
func walk(t *testing.T, r Rule, begin, end int) int {
	t.Helper()
	count := 0
	n, ok, e := Next(r, begin)
	for at := (begin + 60) / 60 * 60; at < end; at += 60 {
		if !modelComes(r, at) {
			continue
		}
		count++
		if n != at || !ok || e != api.OK {
			t.Fatalf("P17.3: rule %v: %s, %t, error %d; it comes at %s", r, whenText(n), ok, e, whenText(at))
		}
		n, ok, e = Next(r, at)
	}
	if ok && n < end || e != api.OK {
		t.Fatalf("P17.3: rule %v: %s, error %d; it does not come ahead of %s", r, whenText(n), e, whenText(end))
	}
	return count
}

func TestNextMinuteByMinute(t *testing.T) {
	for _, s := range []string{"0 12 29 2 *", "*/20 1-5/2 * * 7", "0,30 8-18 1-7,15 */3 1-5", "59 23 31 * *", "0 0 * * 1", "5 4 13 * 5", "17 * 1-31 2 0", "3 3 30 1,2 *"} {
		r, _ := Parse(s)
		if count := walk(t, r, second(2026, 12, 31, 23, 59, 59), second(2029, 1, 1, 0, 0, 0)); count == 0 {
			t.Errorf("P17.3: %q never came", s)
		}
	}
	walk(t, every(), second(2023, 12, 31, 0, 0, 0), second(2024, 3, 2, 0, 0, 0))
}

func TestNextMinuteByMinuteAtTheEnds(t *testing.T) {
	for _, r := range someRules(30) {
		walk(t, r, -1, second(1970, 4, 1, 0, 0, 0))
		walk(t, r, second(2999, 10, 1, 0, 0, 0), api.MaxTime)
		walk(t, r, second(2099, 12, 1, 0, 0, 0), second(2100, 3, 2, 0, 0, 0))
	}
}

// P17.3

func TestNextIsTheLeastMinute(t *testing.T) {
	rng := rand.New(rand.NewSource(174))
	some := 0
	for i, r := range someRules(3000) {
		at := rng.Intn(api.MaxTime)
		switch i % 3 {
		case 0:
			at = at / 60 * 60
		case 1:
			at = second(1970+rng.Intn(1030), 1+rng.Intn(12), 28+rng.Intn(4), 22+rng.Intn(2), 57+rng.Intn(3), rng.Intn(60)) % api.MaxTime
		}
		n, ok, e := Next(r, at)
		if e != api.OK || ok && (n <= at || !modelComes(r, n)) {
			t.Fatalf("P17.3: Next(%v, %s): %s, %t, error %d", r, whenText(at), whenText(n), ok, e)
		}
		end := min(at+86400*100, api.MaxTime)
		want, comes := modelNext(r, at, end)
		if comes && (!ok || n != want) || !comes && ok && n < end {
			t.Fatalf("P17.3: Next(%v, %s): %s, %t; want %s, %t", r, whenText(at), whenText(n), ok, whenText(want), comes)
		}
		if comes {
			some++
		}
	}
	if some < 1000 {
		t.Errorf("P17.3: only %d came", some)
	}
}

func TestOfNextAndComes(t *testing.T) {
	for _, r := range someRules(300) {
		at := second(2026, 11, 19, 0, 0, 0)
		for range 50 {
			n, ok, e := Next(r, at)
			if !ok {
				break
			}
			here, f := Comes(r, n)
			again, still, g := Next(r, n-1)
			if !here || e != api.OK || f != api.OK || again != n || !still || g != api.OK {
				t.Fatalf("P17.3: Next(%v, %s): %s; Comes: %t, error %d; Next a second ahead of it: %s", r, whenText(at), whenText(n), here, f, whenText(again))
			}
			at = n
		}
	}
}

// P1 of DOC.md

func TestNextTakesNotLong(t *testing.T) {
	r, _ := Parse("59 23 31 2,4,6,9,11 *")
	begin := time.Now()
	for range 1000 {
		if _, ok, e := Next(r, -1); ok || e != api.OK {
			t.Fatal("P17.2: it never comes:", ok, e)
		}
	}
	if took := time.Since(begin); took > 20*time.Second {
		t.Error("P17.5: a thousand calls take", took)
	}
}
