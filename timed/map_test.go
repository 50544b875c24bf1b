package timed

import (
	"math"
	"math/rand"
	"testing"

	"tickler/api"
	"tickler/backoff"
	"tickler/job"
)

// may fails unless Check takes a map as wanted.
func may(t *testing.T, what string, s State, want bool) {
	t.Helper()
	why := api.ErrState
	if want {
		why = api.OK
	}
	if e := Check(s); e != why {
		t.Errorf("P20.1: %s: Check(%+v): error %d, want %d", what, s, e, why)
	}
	if allowed(s) != want {
		t.Errorf("P20.1: %s: the model of Check(%+v) does not tell %v", what, s, want)
	}
}

// P20.1: New

func TestNew(t *testing.T) {
	for _, l := range []backoff.Limits{limits, {Base: 1, Cap: 1, Tries: 1}, {Base: 1 << 20, Cap: 1 << 30, Tries: 16}} {
		s, e := New(l)
		if e != api.OK || !sameState(s, State{Limits: l, Next: 1, Token: 1}) {
			t.Errorf("P20.1: New(%v): %+v, error %d", l, s, e)
		}
		may(t, "a new one", s, true)
	}
	for _, l := range []backoff.Limits{{}, {Base: 0, Cap: 1, Tries: 1}, {Base: 1<<20 + 1, Cap: 1 << 30, Tries: 1}, {Base: 2, Cap: 1, Tries: 1}, {Base: 1, Cap: 1<<30 + 1, Tries: 1}, {Base: 1, Cap: 1, Tries: 0}, {Base: 1, Cap: 1, Tries: 17}, {Base: -1, Cap: -1, Tries: -1}} {
		if s, e := New(l); e != api.ErrRange || !isNone(s) {
			t.Errorf("P20.1: New(%v): %+v, error %d", l, s, e)
		}
	}
}

// P20.1: Check

func TestCheckOfEachNumber(t *testing.T) {
	for _, c := range []struct {
		what        string
		set         func(s *State, n int)
		least, most int
	}{
		{"Now", func(s *State, n int) { s.Now = n }, 0, year3000 - 1},
		{"Next", func(s *State, n int) { s.Next = n }, 1, two40},
		{"Token", func(s *State, n int) { s.Token = n }, 1, two40},
		{"Tries", func(s *State, n int) { s.Limits.Tries = n }, 1, 16},
		{"Base", func(s *State, n int) { s.Limits.Base = n }, 1, 9},
		{"Cap", func(s *State, n int) { s.Limits.Cap = n }, 4, 1 << 30},
	} {
		for _, n := range []int{c.least, c.most, c.least + (c.most-c.least)/2} {
			s := at(0)
			c.set(&s, n)
			may(t, c.what, s, true)
		}
		for _, n := range []int{c.least - 1, c.most + 1, -1, -c.most - 1, math.MinInt, math.MaxInt, c.most + 1<<42} {
			s := at(0)
			c.set(&s, n)
			may(t, c.what, s, false)
		}
	}
	may(t, "nothing", State{}, false)
}

func TestCheckOfJobsThatMayNotBe(t *testing.T) {
	may(t, "one of each", at(10, waiting(1, 5), held(2, 1, 20), lost(3, 9)), true)
	wrong := []job.Job{{}, {ID: 2}, {ID: 2, Status: 4}, waiting(2, -1), waiting(2, year3000+1), held(2, 0, 20), ruled(minutely, lost(2, 1)), ruled("x", waiting(2, 1))}
	for _, j := range wrong {
		s := at(10, waiting(1, 5), j, waiting(3, 5))
		s.Token = 9
		may(t, "a job that may not be", s, false)
		s.Jobs = s.Jobs[1:2]
		may(t, "only a job that may not be", s, false)
	}
}

func TestCheckOfAWaitingOnesDue(t *testing.T) {
	for _, due := range []int{0, 9, 10, 11, year3000 - 1, year3000} {
		may(t, "due at any second", at(10, waiting(1, due)), true)
		may(t, "dead since any second", at(10, lost(1, due)), true)
		may(t, "leased up to any second", at(10, held(1, 1, due)), true)
	}
}

func TestCheckOfNumbersThatDoNotRise(t *testing.T) {
	for _, c := range []struct {
		ids  []int
		want bool
	}{{[]int{1, 2, 3}, true}, {[]int{1, 5, 99}, true}, {[]int{1, 1}, false}, {[]int{2, 1}, false}, {[]int{1, 3, 3}, false}, {[]int{1, 3, 2}, false}, {[]int{3, 1, 2}, false}} {
		s := State{Limits: limits, Next: 100, Token: 1}
		for _, id := range c.ids {
			s.Jobs = append(s.Jobs, waiting(id, 0))
		}
		may(t, "numbers that rise, or not", s, c.want)
	}
}

func TestCheckOfNumbersBelowTheNext(t *testing.T) {
	for _, id := range []int{1, 2, 7, two40 - 1} {
		for _, j := range []job.Job{waiting(id, 0), held(id, 1, 0), lost(id, 0)} {
			s := at(0, j)
			may(t, "a number below the next", s, true)
			s.Next--
			may(t, "a number that is the next", s, false)
			s.Next = 1
			may(t, "a number above the next", s, false)
		}
	}
	may(t, "the highest number", State{Limits: limits, Next: two40, Token: 1, Jobs: []job.Job{waiting(two40, 0)}}, false)
}

func TestCheckOfTokens(t *testing.T) {
	for _, token := range []int{1, 2, 7, two40 - 1} {
		s := at(0, held(1, token, 10))
		may(t, "a token below the next", s, true)
		s.Token--
		may(t, "a token that is the next", s, false)
		s.Token = 1
		may(t, "a token not below the next", s, false)
	}
	may(t, "the highest token", State{Limits: limits, Next: 2, Token: two40, Jobs: []job.Job{held(1, two40, 10)}}, false)
	may(t, "two tokens", at(0, held(1, 2, 10), held(2, 1, 10)), true)
	may(t, "one token twice", at(0, held(1, 2, 10), held(2, 2, 10)), false)
	may(t, "one token twice, one lease over", at(10, held(1, 2, 10), held(2, 2, 11)), false)
	may(t, "one token twice, another between", at(0, held(1, 2, 10), held(2, 1, 10), held(3, 2, 10)), false)
	may(t, "none twice", at(0, waiting(1, 0), waiting(2, 0), lost(3, 0), lost(4, 0), held(5, 1, 0)), true)
}

func TestCheckOfNames(t *testing.T) {
	live := []job.Job{waiting(0, 0), held(0, 1, 9), held(0, 2, 0)}
	put := func(id int, name string, j job.Job) job.Job {
		j.ID = id
		return named(name, j)
	}
	for i, a := range live {
		for k, b := range live {
			if i != k || i == 0 {
				may(t, "two with one name", at(5, put(1, "n", a), put(2, "n", b)), false)
				may(t, "two with one name, a dead one between", at(5, put(1, "n", a), named("n", lost(2, 0)), put(3, "n", b)), false)
				may(t, "two with names", at(5, put(1, "n", a), put(2, "m", b)), true)
				may(t, "two with no name", at(5, put(1, "", a), put(2, "", b)), true)
			}
		}
		may(t, "a dead one with the name", at(5, put(1, "n", a), named("n", lost(2, 0))), true)
		may(t, "an earlier dead one with the name", at(5, named("n", lost(1, 0)), put(2, "n", a)), true)
	}
	may(t, "two dead ones with one name", at(5, named("n", lost(1, 0)), named("n", lost(2, 0))), true)
	may(t, "names of which one begins the other", at(5, named("n", waiting(1, 0)), named("n\x00", waiting(2, 0)), named("nn", waiting(3, 0))), true)
}

func TestCheckOfManyJobs(t *testing.T) {
	for _, c := range []struct {
		count int
		want  bool
	}{{0, true}, {1, true}, {1023, true}, {1024, true}, {1025, false}, {2000, false}} {
		may(t, "so many jobs", many(0, c.count), c.want)
	}
	s := many(0, 1024)
	for i := range s.Jobs {
		s.Jobs[i] = lost(i+1, 0)
	}
	may(t, "so many dead ones", s, true)
	s.Jobs, s.Next = append(s.Jobs, lost(1025, 0)), 1026
	may(t, "too many dead ones", s, false)
}

func TestCheckIsTheChaptersWords(t *testing.T) {
	dice := rand.New(rand.NewSource(201))
	rightly := 0
	for range 20000 {
		s := someState(dice, dice.Intn(8))
		if e := Check(s); e != api.OK {
			t.Fatalf("P20.1: Check(%+v): error %d", s, e)
		}
		for range dice.Intn(3) {
			disturb(dice, &s)
		}
		want := allowed(s)
		if rightly++; !want {
			rightly--
		}
		if got := Check(s); (got == api.OK) != want || got != api.OK && got != api.ErrState {
			t.Fatalf("P20.1: Check(%+v): error %d; may it be: %v", s, got, want)
		}
	}
	if rightly < 6000 || rightly > 16000 {
		t.Errorf("P20.1: %d of 20000 maps may be", rightly)
	}
}

// disturb sets one thing of a map so that it may not be any more, but for chance.
func disturb(dice *rand.Rand, s *State) {
	n := pick(dice, extremes())
	switch k := dice.Intn(8); {
	case k < 4 || len(s.Jobs) == 0:
		*pick(dice, []*int{&s.Now, &s.Next, &s.Token, &s.Limits.Base, &s.Limits.Cap, &s.Limits.Tries}) = n
	case k < 6:
		j := &s.Jobs[dice.Intn(len(s.Jobs))]
		*pick(dice, []*int{&j.ID, &j.Status, &j.Due, &j.Tries, &j.Worker, &j.Token, &j.Until}) = n
	case k == 6:
		a, b := dice.Intn(len(s.Jobs)), dice.Intn(len(s.Jobs))
		s.Jobs[a], s.Jobs[b] = s.Jobs[b], s.Jobs[a]
	default:
		a, b := dice.Intn(len(s.Jobs)), dice.Intn(len(s.Jobs))
		s.Jobs[a].Name = s.Jobs[b].Name
		if s.Jobs[a].Status == 2 && s.Jobs[b].Status == 2 {
			s.Jobs[a].Token = s.Jobs[b].Token
		}
	}
}

// P20.1: Tick

func TestTick(t *testing.T) {
	for _, jobs := range [][]job.Job{nil, {waiting(1, 5), held(2, 1, 20), lost(3, 9)}, {held(1, 1, 0), held(2, 2, 10)}} {
		s := at(10, jobs...)
		for _, now := range []int{10, 11, 20, 1000, year3000 - 2, year3000 - 1} {
			want := copied(s)
			want.Now = now
			if got, e := Tick(s, now); e != api.OK || !sameState(got, want) {
				t.Errorf("P20.1: Tick(%+v, %d): %+v, error %d", s, now, got, e)
			}
		}
		for _, c := range []struct {
			now  int
			want api.Errno
		}{{9, api.ErrOrder}, {0, api.ErrOrder}, {-1, api.ErrOrder}, {math.MinInt, api.ErrOrder}, {year3000, api.ErrRange}, {year3000 + 1, api.ErrRange}, {math.MaxInt, api.ErrRange}} {
			if got, e := Tick(s, c.now); e != c.want || !isNone(got) {
				t.Errorf("P20.1: Tick(%+v, %d): %+v, error %d, want %d", s, c.now, got, e, c.want)
			}
		}
	}
	last := at(year3000 - 1)
	if got, e := Tick(last, year3000-1); e != api.OK || !sameState(got, last) {
		t.Errorf("P20.1: Tick at the last second: %+v, error %d", got, e)
	}
	if got, e := Tick(last, year3000); e != api.ErrRange || !isNone(got) {
		t.Errorf("P20.1: Tick behind the last second: %+v, error %d", got, e)
	}
	if got, e := Tick(last, year3000-2); e != api.ErrOrder || !isNone(got) {
		t.Errorf("P20.1: Tick back from the last second: %+v, error %d", got, e)
	}
	if got, e := Tick(at(0), -1); e != api.ErrOrder || !isNone(got) {
		t.Errorf("P20.1: Tick ahead of the first second: %+v, error %d", got, e)
	}
}

// P20.1: Find

func TestFind(t *testing.T) {
	s := at(10, waiting(2, 5), named("n", held(3, 1, 20)), loaded("p", lost(7, 9)))
	for _, j := range s.Jobs {
		if got, ok, e := Find(s, j.ID); got != j || !ok || e != api.OK {
			t.Errorf("P20.1: Find(%d): %+v, %v, error %d", j.ID, got, ok, e)
		}
	}
	for _, id := range append(extremes(), 4, 5, 6, 8) {
		if id == 2 || id == 3 {
			continue
		}
		if got, ok, e := Find(s, id); got != (job.Job{}) || ok || e != api.OK {
			t.Errorf("P20.1: Find(%d): %+v, %v, error %d", id, got, ok, e)
		}
	}
	if got, ok, e := Find(at(0), 1); got != (job.Job{}) || ok || e != api.OK {
		t.Errorf("P20.1: Find of no jobs: %+v, %v, error %d", got, ok, e)
	}
	full := many(0, 1024)
	for _, id := range []int{1, 2, 512, 1023, 1024} {
		if got, ok, e := Find(full, id); got != full.Jobs[id-1] || !ok || e != api.OK {
			t.Errorf("P20.1: Find(%d) of 1024: %+v, %v, error %d", id, got, ok, e)
		}
	}
}

// P20.1, P20.2: all others first Check's error

func TestOfMapsThatMayNotBe(t *testing.T) {
	twice := at(0, named("n", waiting(1, 0)), named("n", waiting(2, 0)))
	late, unlimited := at(year3000), at(0)
	unlimited.Limits.Tries = 0
	for _, s := range []State{{}, twice, late, unlimited, many(0, 1025)} {
		for _, now := range []int{-1, 0, year3000} {
			if got, e := Tick(s, now); e != api.ErrState || !isNone(got) {
				t.Errorf("P20.1: Tick of a map that may not be: %+v, error %d", got, e)
			}
		}
		for _, id := range []int{-1, 1, 2} {
			if got, ok, e := Find(s, id); e != api.ErrState || ok || got != (job.Job{}) {
				t.Errorf("P20.1: Find in a map that may not be: %+v, %v, error %d", got, ok, e)
			}
		}
		for kind := -1; kind < 14; kind++ {
			got, r, e := Step(s, api.Command{Kind: kind, Job: 1})
			if e != api.ErrState || !isNone(got) || !sameReply(r, api.Reply{}) {
				t.Errorf("P20.2: Step of a map that may not be: %+v, %+v, error %d", got, r, e)
			}
		}
	}
}
