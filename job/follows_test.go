package job

import (
	"fmt"
	"math"
	"math/rand"
	"strings"
	"sync"
	"testing"

	"tickler/api"
	"tickler/backoff"
)

// P19.4

func TestWhatFollowsMayBe(t *testing.T) {
	dice := rand.New(rand.NewSource(194))
	followed := 0
	follow := func(what string, j Job, e api.Errno) {
		t.Helper()
		if e != api.OK {
			return
		}
		followed++
		if !allowed(j) || Check(j) != api.OK {
			t.Errorf("P19.4: %s answers %+v", what, j)
		}
	}
	for _, j := range someJobs() {
		for _, now := range []int{0, 1, 59, 60, year3000 - 60, year3000 - 1, someNow(dice)} {
			l := someLimits(dice)
			got, e := Fail(j, l, now)
			follow("Fail", got, e)
			got, ok, e := Finish(j, now)
			if ok {
				follow("Finish", got, e)
			}
		}
		got, e := Lease(j, 1+upTo(dice, two31-1), 1+upTo(dice, two40-1), upTo(dice, year3000))
		follow("Lease", got, e)
	}
	if followed < 2000 {
		t.Errorf("P19.4: only %d calls answered a job", followed)
	}
}

// TestALife: one job from its first lease to its end, failing as often as the limits let it.
func TestALife(t *testing.T) {
	j, now := Job{ID: 1, Status: 1, Payload: "p"}, 0
	for k := range limits.Tries {
		var e api.Errno
		if j, e = Lease(j, 1, k+1, now+5); e != api.OK {
			t.Fatalf("P19.2: lease %d: error %d", k, e)
		}
		if j, e = Fail(j, limits, now); e != api.OK || j.Tries != k+1 {
			t.Fatalf("P19.2: failure %d: %+v, error %d", k, j, e)
		}
		now = j.Due
	}
	total, _ := backoff.Total(limits)
	if j != (Job{ID: 1, Status: 3, Payload: "p", Due: total, Tries: limits.Tries}) {
		t.Errorf("P19.2: in the end: %+v", j)
	}
}

// P19.5: P2 of DOC.md, and P1, P3 and P4 of it

// question is what all calls are asked.
type question struct {
	j                    Job
	s                    string
	l                    backoff.Limits
	worker, token, until int
	now                  int
}

// answers are what they answer.
type answers struct {
	octets  string
	decoded Job
	leased  Job
	failed  Job
	done    Job
	again   bool
	errs    [6]api.Errno
}

// ask asks all calls.
func ask(q question) answers {
	var a answers
	a.errs[0] = Check(q.j)
	a.octets, a.errs[1] = Encode(q.j)
	a.decoded, a.errs[2] = Decode(q.s)
	a.leased, a.errs[3] = Lease(q.j, q.worker, q.token, q.until)
	a.failed, a.errs[4] = Fail(q.j, q.l, q.now)
	a.done, a.again, a.errs[5] = Finish(q.j, q.now)
	return a
}

// questions: jobs that may be and such that may not, with numbers of all sizes and octets that are no job.
func questions() []question {
	dice := rand.New(rand.NewSource(195))
	var l []question
	for i, j := range append(someJobs()[:400], wrongJobs()...) {
		s := written(j)
		l = append(l, question{j, s[:len(s)-i%3], someLimits(dice), 1 + i, 1 + i, i, someNow(dice)})
	}
	for _, n := range extremes() {
		for i, j := range []Job{waiting(), held(), lost(), ruleless(held())} {
			some := []int{5, 9, 100, 1000}
			some[i] = n
			l = append(l, question{j, strings.Repeat("\xff", i) + counted(uint64(n)), limits, some[0], some[1], some[2], some[3]})
			l = append(l, question{held(), "", backoff.Limits{Base: n, Cap: n, Tries: n}, n, n, n, n})
		}
	}
	for _, s := range []string{"", "\x00", strings.Repeat("\xff", 1<<16), strings.Repeat("\x00", 1<<16), strings.Repeat("\x01", 20), strings.Repeat("\x7f", 7) + counted(math.MaxUint64)} {
		l = append(l, question{s: s})
	}
	return l
}

func TestAnswersHangOnArgumentsAlone(t *testing.T) {
	l := questions()
	var first []answers
	for _, q := range l {
		first = append(first, ask(q))
	}
	for i := len(l) - 1; i >= 0; i-- {
		if again := ask(l[i]); again != first[i] {
			t.Errorf("P19.5: %+v: %+v, asked again %+v", l[i], first[i], again)
		}
	}
	var all sync.WaitGroup
	for worker := range 4 {
		all.Go(func() {
			for i := worker; i < len(l); i += 2 {
				if again := ask(l[i]); again != first[i] {
					t.Errorf("P19.5: %+v: %+v, asked beside others %+v", l[i], first[i], again)
				}
			}
		})
	}
	all.Wait()
}

func TestWhatIsHandedInStays(t *testing.T) {
	for _, q := range questions() {
		was := fmt.Sprintf("%+v", q)
		ask(q)
		if is := fmt.Sprintf("%+v", q); is != was {
			t.Errorf("P19.5: %s behind the calls: %s", was, is)
		}
	}
}

func TestBesideAnErrorAllElseIsZero(t *testing.T) {
	for _, q := range questions() {
		a := ask(q)
		empty := []bool{true, a.octets == "", a.decoded == Job{}, a.leased == Job{}, a.failed == Job{}, a.done == Job{} && !a.again}
		for i, e := range a.errs {
			if e != api.OK && !empty[i] {
				t.Errorf("P19.5: %+v: call %d answers something beside error %d: %+v", q, i, e, a)
			}
		}
		if !a.again && a.done != (Job{}) {
			t.Errorf("P19.5: %+v: Finish answers %+v and false", q, a.done)
		}
	}
}
