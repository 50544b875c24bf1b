package job

import (
	"math"
	"math/rand"
	"strings"
	"testing"

	"tickler/api"
	"tickler/backoff"
)

// P19.2: Lease

func TestLeaseExamples(t *testing.T) {
	got, e := Lease(waiting(), 5, 9, 100)
	follows(t, "P19.2: Lease", got, e, held())
	got, e = Lease(Job{ID: 1, Status: 1, Due: 1000}, 1, 1, 0)
	follows(t, "P19.2: Lease", got, e, Job{ID: 1, Status: 2, Worker: 1, Token: 1})
	got, e = Lease(tried(waiting(), 16), 5, 9, 100)
	follows(t, "P19.2: Lease", got, e, tried(held(), 16))
}

func TestLeaseOfWhatDoesNotWait(t *testing.T) {
	for _, j := range []Job{held(), lost(), ruleless(held())} {
		got, e := Lease(j, 5, 9, 100)
		refused(t, "P19.2: Lease of what does not wait", got, e, api.ErrOrder)
		got, e = Lease(j, 0, 0, -1)
		refused(t, "P19.2: Lease of what does not wait, to none", got, e, api.ErrOrder)
	}
}

func TestLeaseOfWhatMayNotBe(t *testing.T) {
	for _, j := range wrongJobs() {
		got, e := Lease(j, 5, 9, 100)
		refused(t, "P19.2: Lease of what may not be", got, e, api.ErrState)
		got, e = Lease(j, 0, 0, -1)
		refused(t, "P19.2: Lease of what may not be, to none", got, e, api.ErrState)
	}
}

func TestLeaseAtTheBounds(t *testing.T) {
	for _, c := range []struct {
		worker, token, until int
		want                 api.Errno
	}{
		{1, 9, 100, api.OK},
		{0, 9, 100, api.ErrRange},
		{-1, 9, 100, api.ErrRange},
		{1 << 31, 9, 100, api.OK},
		{1<<31 + 1, 9, 100, api.ErrRange},
		{5, 1, 100, api.OK},
		{5, 0, 100, api.ErrRange},
		{5, -9, 100, api.ErrRange},
		{5, 1 << 40, 100, api.OK},
		{5, 1<<40 + 1, 100, api.ErrRange},
		{5, 9, 0, api.OK},
		{5, 9, -1, api.ErrRange},
		{5, 9, 32503680000, api.OK},
		{5, 9, 32503680001, api.ErrRange},
		{0, 0, 0, api.ErrRange},
		{0, 0, -1, api.ErrRange},
		{math.MinInt, math.MinInt, math.MinInt, api.ErrRange},
		{math.MaxInt, math.MaxInt, math.MaxInt, api.ErrRange},
		{1 << 31, 1 << 40, 32503680000, api.OK},
	} {
		for _, j := range []Job{waiting(), ruleless(waiting())} {
			got, e := Lease(j, c.worker, c.token, c.until)
			if c.want != api.OK {
				refused(t, "P19.2: Lease", got, e, c.want)
				continue
			}
			j.Status, j.Due, j.Worker, j.Token, j.Until = 2, 0, c.worker, c.token, c.until
			follows(t, "P19.2: Lease", got, e, j)
		}
	}
}

// P19.2: Fail

// fails fails unless Fail of a job answers the job that is wanted.
func fails(t *testing.T, j Job, l backoff.Limits, now int, want Job) {
	t.Helper()
	got, e := Fail(j, l, now)
	follows(t, "P19.2: Fail", got, e, want)
}

// failing is a leased job with a rule, and failed so often.
func failing(rule string, tries int) Job {
	return Job{ID: 3, Name: "n", Rule: rule, Payload: "p", Status: 2, Tries: tries, Worker: 5, Token: 9, Until: 100}
}

// later is the job of failing as it waits.
func later(rule string, tries, due int) Job {
	return Job{ID: 3, Name: "n", Rule: rule, Payload: "p", Status: 1, Due: due, Tries: tries}
}

// gone is the job of failing, dead.
func gone(tries, due int) Job {
	return Job{ID: 3, Name: "n", Payload: "p", Status: 3, Due: due, Tries: tries}
}

func TestFailExamples(t *testing.T) {
	fails(t, failing("", 0), limits, 10, later("", 1, 13))
	fails(t, failing("", 1), limits, 10, later("", 2, 16))
	fails(t, failing("", 2), limits, 10, later("", 3, 22))
	fails(t, failing("", 3), limits, 10, later("", 4, 30))
	fails(t, failing("", 4), limits, 10, later("", 5, 30))
	fails(t, failing("", 5), limits, 10, gone(6, 10))
	fails(t, failing("", 6), limits, 10, gone(7, 10))
	fails(t, failing("", 15), limits, 10, gone(16, 10))
	fails(t, failing("", 16), limits, 10, gone(16, 10))
	fails(t, failing(minutely, 0), limits, 10, later(minutely, 1, 13))
	fails(t, failing(minutely, 4), limits, 10, later(minutely, 5, 30))
	fails(t, failing(minutely, 5), limits, 10, later(minutely, 0, 60))
	fails(t, failing(minutely, 5), limits, 60, later(minutely, 0, 120))
	fails(t, failing(minutely, 16), limits, 59, later(minutely, 0, 60))
	fails(t, failing(leapNoon, 5), limits, 1767225600, later(leapNoon, 0, 1835438400))
	fails(t, failing(noDay, 4), limits, 10, later(noDay, 5, 30))
	fails(t, failing(noDay, 5), limits, 10, gone(6, 10))
}

func TestFailOfEachCountOfTries(t *testing.T) {
	for most := 1; most <= 16; most++ {
		l := backoff.Limits{Base: 2, Cap: 1 << 30, Tries: most}
		for tries := range 17 {
			due := 2 << tries
			if tries+1 < most {
				fails(t, failing("", tries), l, 0, later("", tries+1, due))
				fails(t, failing(minutely, tries), l, 0, later(minutely, tries+1, due))
				fails(t, failing(noDay, tries), l, 0, later(noDay, tries+1, due))
				continue
			}
			fails(t, failing("", tries), l, 0, gone(min(tries+1, 16), 0))
			fails(t, failing(minutely, tries), l, 0, later(minutely, 0, 60))
			fails(t, failing(noDay, tries), l, 0, gone(min(tries+1, 16), 0))
		}
	}
}

func TestFailWhereTheDelayEndsBehindTheLastYear(t *testing.T) {
	l := backoff.Limits{Base: 120, Cap: 1000, Tries: 6}
	const end = 32503680000
	yearly := "0 0 1 1 *"
	for _, rule := range []string{"", minutely, yearly} {
		fails(t, failing(rule, 0), l, end-121, later(rule, 1, end-1))
	}
	for _, now := range []int{end - 120, end - 119, end - 61} {
		fails(t, failing("", 0), l, now, gone(1, now))
		fails(t, failing(minutely, 0), l, now, later(minutely, 0, now/60*60+60))
		fails(t, failing(yearly, 0), l, now, gone(1, now))
	}
	for _, now := range []int{end - 60, end - 59, end - 1} {
		for _, rule := range []string{"", minutely, yearly} {
			fails(t, failing(rule, 0), l, now, gone(1, now))
			fails(t, failing(rule, 3), l, now, gone(4, now))
			fails(t, failing(rule, 16), l, now, gone(16, now))
		}
	}
}

func TestFailTellsTheErrorsInTheirOrder(t *testing.T) {
	none, bad := backoff.Limits{}, held()
	bad.Until = -1
	for _, c := range []struct {
		what string
		j    Job
		l    backoff.Limits
		now  int
		want api.Errno
	}{
		{"a job that may not be", bad, limits, 10, api.ErrState},
		{"no job", Job{}, limits, 10, api.ErrState},
		{"a job that may not be, no limits", bad, none, 10, api.ErrState},
		{"a job that may not be, no limits, now below 0", bad, none, -1, api.ErrState},
		{"no limits", held(), none, 10, api.ErrRange},
		{"no limits, it waits", waiting(), none, 10, api.ErrRange},
		{"no limits, it is dead, now below 0", lost(), none, -1, api.ErrRange},
		{"it waits", waiting(), limits, 10, api.ErrOrder},
		{"it is dead", lost(), limits, 10, api.ErrOrder},
		{"it waits, now below 0", waiting(), limits, -1, api.ErrOrder},
		{"it is dead, now too late", lost(), limits, 32503680000, api.ErrOrder},
		{"now below 0", held(), limits, -1, api.ErrRange},
		{"now too late", held(), limits, 32503680000, api.ErrRange},
		{"now later", ruleless(held()), limits, math.MaxInt, api.ErrRange},
		{"now far below 0", ruleless(held()), limits, math.MinInt, api.ErrRange},
		{"Tries at their end, now below 0", tried(held(), 16), limits, -1, api.ErrRange},
	} {
		got, e := Fail(c.j, c.l, c.now)
		refused(t, "P19.2: Fail: "+c.what, got, e, c.want)
	}
	for _, l := range []backoff.Limits{{Base: 0, Cap: 20, Tries: 6}, {Base: 3, Cap: 2, Tries: 6}, {Base: 3, Cap: 20, Tries: 0}, {Base: 3, Cap: 20, Tries: 17}, {Base: -1, Cap: -1, Tries: -1}} {
		got, e := Fail(held(), l, 10)
		refused(t, "P19.2: Fail: limits that may not be", got, e, api.ErrRange)
	}
	for _, j := range wrongJobs() {
		got, e := Fail(j, limits, 10)
		refused(t, "P19.2: Fail of what may not be", got, e, api.ErrState)
	}
}

// P19.2: Finish

// ends fails unless Finish of a job answers the job that is wanted and true, or none and false.
func ends(t *testing.T, j Job, now int, want Job, again bool) {
	t.Helper()
	got, ok, e := Finish(j, now)
	if got != want || ok != again || e != api.OK {
		t.Errorf("P19.2: Finish(%+v, %d): %+v, %v, error %d; want %+v, %v", j, now, got, ok, e, want, again)
	}
}

func TestFinishExamples(t *testing.T) {
	const end = 32503680000
	for tries := range 17 {
		ends(t, failing(minutely, tries), 0, later(minutely, 0, 60), true)
		ends(t, failing(minutely, tries), 59, later(minutely, 0, 60), true)
		ends(t, failing(minutely, tries), 60, later(minutely, 0, 120), true)
		ends(t, failing("", tries), 60, Job{}, false)
		ends(t, failing(noDay, tries), 60, Job{}, false)
	}
	ends(t, failing(leapNoon, 2), 1767225600, later(leapNoon, 0, 1835438400), true)
	ends(t, failing(minutely, 2), end-61, later(minutely, 0, end-60), true)
	ends(t, failing(minutely, 2), end-60, Job{}, false)
	ends(t, failing(minutely, 2), end-1, Job{}, false)
	ends(t, failing("", 2), end-1, Job{}, false)
	ends(t, failing("", 2), 0, Job{}, false)
}

func TestFinishTellsTheErrorsInTheirOrder(t *testing.T) {
	bad := held()
	bad.Token = 0
	for _, c := range []struct {
		what string
		j    Job
		now  int
		want api.Errno
	}{
		{"a job that may not be", bad, 10, api.ErrState},
		{"a job that may not be, now below 0", bad, -1, api.ErrState},
		{"no job", Job{}, 10, api.ErrState},
		{"it waits", waiting(), 10, api.ErrOrder},
		{"it is dead", lost(), 10, api.ErrOrder},
		{"it waits, now below 0", waiting(), -1, api.ErrOrder},
		{"it is dead, now too late", lost(), 32503680000, api.ErrOrder},
		{"now below 0", held(), -1, api.ErrRange},
		{"now below 0, no rule", ruleless(held()), -1, api.ErrRange},
		{"now too late", held(), 32503680000, api.ErrRange},
		{"now too late, no rule", ruleless(held()), 32503680000, api.ErrRange},
		{"now later", held(), math.MaxInt, api.ErrRange},
		{"now far below 0", held(), math.MinInt, api.ErrRange},
	} {
		got, ok, e := Finish(c.j, c.now)
		refused(t, "P19.2: Finish: "+c.what, got, e, c.want)
		if ok {
			t.Errorf("P19.2: Finish: %s: true beside error %d", c.what, e)
		}
	}
	for _, j := range wrongJobs() {
		got, ok, e := Finish(j, 10)
		if refused(t, "P19.2: Finish of what may not be", got, e, api.ErrState); ok {
			t.Errorf("P19.2: Finish(%+v): true beside error %d", j, e)
		}
	}
}

// All three, by chance

// someLimits draws limits, of which few may not be.
func someLimits(dice *rand.Rand) backoff.Limits {
	base := 1 + upTo(dice, 1<<20-1)
	l := backoff.Limits{Base: base, Cap: base + upTo(dice, 1<<30-base), Tries: 1 + dice.Intn(16)}
	if dice.Intn(20) == 0 {
		l.Tries = pick(dice, []int{0, -1, 17})
	}
	return l
}

// someNow draws a second, few of which may not be.
func someNow(dice *rand.Rand) int {
	switch dice.Intn(8) {
	case 0:
		return year3000 - 1 - dice.Intn(1000)
	case 1:
		return pick(dice, []int{-1, year3000, 0, year3000 - 1})
	}
	return upTo(dice, year3000-1)
}

func TestWhatFollowsIsTheChaptersWords(t *testing.T) {
	dice := rand.New(rand.NewSource(192))
	jobs, wrong := someJobs(), wrongJobs()
	for range 20000 {
		j := pick(dice, jobs)
		if dice.Intn(10) == 0 {
			j = pick(dice, wrong)
		}
		l, now := someLimits(dice), someNow(dice)
		got, e := Fail(j, l, now)
		if want, f := modelFail(j, l, now); got != want || e != f {
			t.Fatalf("P19.2: Fail(%+v, %v, %d): %+v, error %d; want %+v, error %d", j, l, now, got, e, want, f)
		}
		got, ok, e := Finish(j, now)
		if want, again, f := modelFinish(j, now); got != want || ok != again || e != f {
			t.Fatalf("P19.2: Finish(%+v, %d): %+v, %v, error %d; want %+v, %v, error %d", j, now, got, ok, e, want, again, f)
		}
		worker, token, until := upTo(dice, two31+1), upTo(dice, two40+1), upTo(dice, year3000+1)
		got, e = Lease(j, worker, token, until)
		if want, f := modelLease(j, worker, token, until); got != want || e != f {
			t.Fatalf("P19.2: Lease(%+v, %d, %d, %d): %+v, error %d; want %+v, error %d", j, worker, token, until, got, e, want, f)
		}
	}
}

func TestOfALongRule(t *testing.T) {
	for _, rule := range []string{long(200), padded(minutely, 200), strings.Repeat(" ", 191) + minutely} {
		fails(t, failing(rule, 0), limits, 10, later(rule, 1, 13))
		got, ok, e := Finish(failing(rule, 0), 10)
		if e != api.OK || !ok || got.Rule != rule || got.Due <= 10 || got.Due%60 != 0 {
			t.Errorf("P19.2: Finish with the rule %q: %+v, %v, error %d", rule, got, ok, e)
		}
	}
}
