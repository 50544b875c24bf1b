package backoff

import (
	"math"
	"sync"
	"testing"

	"tickler/api"
)

// P18.2

func TestALaterDelayIsNotShorterAndAtMostTwiceAsLong(t *testing.T) {
	for _, l := range someLimits() {
		was, e := Delay(l, 0)
		if was != l.Base || e != api.OK {
			t.Errorf("P18.2: Delay(%v, 0): %d, error %d", l, was, e)
		}
		for k := 1; k < 70; k++ {
			n, e := Delay(l, k)
			if n < was || n > 2*was || n > l.Cap || e != api.OK {
				t.Errorf("P18.2: Delay(%v, %d): %d, error %d, behind %d", l, k, n, e, was)
			}
			was = n
		}
		for _, k := range somePlaces()[70:] {
			if n, e := Delay(l, k); n != was || e != api.OK {
				t.Errorf("P18.2: Delay(%v, %d): %d, error %d, behind %d", l, k, n, e, was)
			}
		}
	}
}

func TestALaterDueIsNotEarlier(t *testing.T) {
	for _, l := range someLimits() {
		was, e := Due(l, 1000, 0)
		for k := 1; k < 40 && e == api.OK; k++ {
			var n int
			n, e = Due(l, 1000, k)
			if n < was || n-1000 > 2*(was-1000) {
				t.Errorf("P18.2: Due(%v, 1000, %d): %d behind %d", l, k, n, was)
			}
			was = n
		}
		if e != api.OK {
			t.Errorf("P18.2: Due(%v, 1000): error %d", l, e)
		}
	}
}

// P18.3: P2 of DOC.md, and P1, P3 and P4 of it

// question is what all calls are asked.
type question struct {
	l      Limits
	now, k int
}

// answers are what they answer.
type answers struct {
	delay, due, total int
	errs              [4]api.Errno
}

// ask asks all calls.
func ask(q question) answers {
	var a answers
	a.errs[0] = Check(q.l)
	a.delay, a.errs[1] = Delay(q.l, q.k)
	a.due, a.errs[2] = Due(q.l, q.now, q.k)
	a.total, a.errs[3] = Total(q.l)
	return a
}

// questions: limits that may be and such that may not, with numbers of all sizes.
func questions() []question {
	var l []question
	few := []int{-1, 0, 3, api.MaxTime - 1, math.MaxInt}
	for i, some := range someLimits() {
		l = append(l, question{some, i, i % 40}, question{some, api.MaxTime - i, i % 7})
	}
	for _, some := range wrongLimits() {
		for i, x := range few {
			l = append(l, question{some, x, few[len(few)-1-i]})
		}
	}
	for _, now := range extremes() {
		for _, k := range extremes() {
			l = append(l, question{Limits{3, 20, 6}, now, k})
		}
	}
	return l
}

func TestAnswersHangOnArgumentsAlone(t *testing.T) {
	l := questions()
	var first []answers
	for _, q := range l {
		first = append(first, ask(q))
	}
	for i := len(l) - 1; i >= 0; i-- {
		if again := ask(l[i]); again != first[i] {
			t.Errorf("P18.3: %v: %v, asked again %v", l[i], first[i], again)
		}
	}
	var all sync.WaitGroup
	for worker := range 4 {
		all.Go(func() {
			for i := worker; i < len(l); i += 2 {
				if again := ask(l[i]); again != first[i] {
					t.Errorf("P18.3: %v: %v, asked beside others %v", l[i], first[i], again)
				}
			}
		})
	}
	all.Wait()
}

func TestWhatIsHandedInStays(t *testing.T) {
	for _, l := range append(someLimits(), wrongLimits()[:50]...) {
		was := l
		ask(question{l, 1000, 7})
		if l != was {
			t.Errorf("P18.3: %v behind the calls: %v", was, l)
		}
	}
}

func TestBesideAnErrorAllElseIsZero(t *testing.T) {
	for _, q := range questions() {
		a := ask(q)
		for i, n := range []int{0, a.delay, a.due, a.total} {
			if a.errs[i] != api.OK && n != 0 {
				t.Errorf("P18.3: %v: call %d answers %d beside error %d", q, i, n, a.errs[i])
			}
		}
	}
}
