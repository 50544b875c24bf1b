package cron

import (
	"slices"
	"strings"
	"sync"
	"testing"

	"tickler/api"
)

// P17.4

func TestParseOfPrintIsTheRule(t *testing.T) {
	l := append(someRules(20000), every())
	for _, just := range [][2]bool{{false, false}, {true, false}, {false, true}} {
		r := every()
		r.AnyDay, r.AnyWeekday = just[0], just[1]
		l = append(l, r)
	}
	for i, s := range spans() {
		for bit := s.low; bit <= s.high; bit++ {
			l = append(l, withSet(every(), i, 1<<bit), withSet(every(), i, setAt(every(), i)&^(1<<bit)))
		}
	}
	for _, r := range l {
		s, e := Print(r)
		back, f := Parse(s)
		if e != api.OK || back != r || f != api.OK {
			t.Fatalf("P17.4: Print(%v): %q, error %d; Parse of it: %v, error %d", r, s, e, back, f)
		}
		if again, _ := Print(back); again != s {
			t.Fatalf("P17.4: Print(%v): %q, of what Parse makes of it %q", r, s, again)
		}
	}
}

func TestPrintListsDaysThatAreNotAny(t *testing.T) {
	for _, r := range someRules(20000) {
		s, _ := Print(r)
		words := strings.Split(s, " ")
		if len(words) != 5 || len(s) > 400 {
			t.Fatalf("P17.4: Print(%v): %q", r, s)
		}
		for i, word := range words {
			star := setAt(r, i) == setAt(every(), i)
			if i == 2 {
				star = r.AnyDay
			}
			if i == 4 {
				star = r.AnyWeekday
			}
			if (word == "*") != star {
				t.Fatalf("P17.4: Print(%v): %q", r, s)
			}
		}
	}
}

func TestPrintIsNeverTooLong(t *testing.T) {
	r := Rule{from(1, 59), from(1, 23), from(1, 31), from(2, 12), from(0, 6), false, false}
	s, e := Print(r)
	if back, f := Parse(s); back != r || e != api.OK || f != api.OK {
		t.Errorf("P17.4: Print(%v): %q, error %d; Parse of it: %v, error %d", r, s, e, back, f)
	}
}

// P17.5: P2 of DOC.md, and P1, P3 and P4 of it

// answers are what all calls answer of a text, a rule and a second.
type answers struct {
	parsed    Rule
	comes, ok bool
	next      int
	text      string
	errs      [5]api.Errno
}

// question is what all calls are asked.
type question struct {
	s string
	r Rule
	t int
}

// ask asks all calls.
func ask(q question) answers {
	var a answers
	a.parsed, a.errs[0] = Parse(q.s)
	a.errs[1] = Check(q.r)
	a.comes, a.errs[2] = Comes(q.r, q.t)
	a.next, a.ok, a.errs[3] = Next(q.r, q.t)
	a.text, a.errs[4] = Print(q.r)
	return a
}

// questions: texts, rules and seconds that may be, and such as may not.
func questions() []question {
	texts := []string{"", "* * * * *", "0 12 29 2 *", "60 * * * *", "1/2 * * * *", "* * * * * *", strings.Repeat("*", 401), "*/9,1-7/3 5 1-31 2 5-7", "\xff \xff \xff \xff \xff"}
	times := append(farNumbers(), -1, 0, 1, 59, 60, 61, second(2026, 11, 19, 12, 0, 0), api.MaxTime/60/2*60, api.MaxTime-61, api.MaxTime-60, api.MaxTime-1)
	var l []question
	for i, r := range slices.Concat(someRules(200), wrongRules(), []Rule{every()}) {
		for j, at := range times {
			l = append(l, question{texts[(i+j)%len(texts)], r, at})
		}
	}
	return l
}

func TestAnswersHangOnArgumentsAlone(t *testing.T) {
	l := questions()
	var first []answers
	for _, q := range l {
		first = append(first, ask(q))
	}
	for i := len(l) - 1; i >= 0; i-- {
		if again := ask(l[i]); again != first[i] {
			t.Errorf("P17.5: %v: %v, asked again %v", l[i], first[i], again)
		}
	}
	var workers sync.WaitGroup
	for worker := range 4 {
		workers.Go(func() {
			for i := worker; i < len(l); i += 2 {
				if again := ask(l[i]); again != first[i] {
					t.Errorf("P17.5: %v: %v, asked beside others %v", l[i], first[i], again)
				}
			}
		})
	}
	workers.Wait()
}

func TestBesideAnErrorAllElseIsZero(t *testing.T) {
	for _, q := range questions() {
		a := ask(q)
		zero := [5]bool{a.parsed == Rule{}, true, !a.comes, a.next == 0 && !a.ok, a.text == ""}
		for i, e := range a.errs {
			if e != api.OK && !zero[i] {
				t.Errorf("P17.5: %v: call %d answers beside error %d: %v", q, i, e, a)
			}
		}
		if !a.ok && a.next != 0 {
			t.Errorf("P17.5: %v: Next answers %d beside false", q, a.next)
		}
	}
}

func TestATextIsItsHolders(t *testing.T) {
	b := []byte("0 12 29 2 *")
	r, _ := Parse(string(b))
	was := r
	s, _ := Print(r)
	kept := strings.Clone(s)
	for _, q := range questions()[:2000] {
		ask(q)
	}
	for i := range b {
		b[i] = '7'
	}
	if r != was || s != kept {
		t.Errorf("P17.5: told earlier: %v, %q", r, s)
	}
}
