package timed

import (
	"math/rand"
	"testing"

	"tickler/api"
	"tickler/backoff"
	"tickler/job"
)

// Example 1

func TestExample(t *testing.T) {
	s, e := New(limits)
	if e != api.OK {
		t.Fatalf("P20.1: New: error %d", e)
	}
	s, r := steps(t, "example 1", s, enqueue("", 5, "p"))
	if !sameReply(r, api.Reply{Job: 1, Due: 5}) {
		t.Errorf("example 1: enqueue: %+v", r)
	}
	s, r = steps(t, "example 1", s, lease(1, 10))
	if !sameReply(r, api.Reply{Err: api.ErrNone}) {
		t.Errorf("example 1: lease ahead of its time: %+v", r)
	}
	s, e = Tick(s, 5)
	if e != api.OK {
		t.Fatalf("P20.1: Tick: error %d", e)
	}
	if _, r = steps(t, "example 1", s, lease(1, 10)); !sameReply(r, api.Reply{Job: 1, Token: 1, Due: 15, Payload: "p"}) {
		t.Errorf("example 1: lease: %+v", r)
	}
}

// walk is a map on its way from New on, as the commands' answers tell it.
type walk struct {
	t    *testing.T
	dice *rand.Rand
	s    State
	// due: from when on a job that waits may be leased, as it was told.
	due map[int]int
	// holds: until when a token holds its job.
	holds map[hold]int
	// there: the jobs that were told, and not acked, cancelled or purged.
	there map[int]bool
}

type hold struct{ id, token int }

// start is a walk's first map.
func start(t *testing.T, seed int64) *walk {
	dice := rand.New(rand.NewSource(seed))
	s, e := New(someLimits(dice))
	if e != api.OK {
		t.Fatalf("P20.1: New: error %d", e)
	}
	return &walk{t, dice, s, map[int]int{}, map[hold]int{}, map[int]bool{}}
}

// tick lets some seconds pass, or none.
func (w *walk) tick() {
	was := w.s
	s, e := Tick(w.s, w.s.Now+w.dice.Intn(4)*w.dice.Intn(4))
	if w.s = s; e != api.OK || Check(s) != api.OK {
		w.t.Fatalf("P20.5: Tick of %+v: %+v, error %d", was, s, e)
	}
}

// step takes a command by chance, and looks at what it tells.
func (w *walk) step() {
	c := someCommand(w.dice, w.s)
	s, r, e := Step(w.s, c)
	if e != api.OK || Check(s) != api.OK {
		w.t.Fatalf("P20.5: Step of %+v, %+v: %+v, error %d", w.s, c, s, e)
	}
	was := w.s
	w.s = s
	if r.Err != api.OK {
		w.look(was, c, r)
		return
	}
	switch c.Kind {
	case 1, 2:
		w.there[r.Job] = true
	case 3:
		w.leased(r)
	case 4, 5, 6:
		w.held(was, c, r)
	}
	if c.Kind == 5 && r.Due == 0 || c.Kind == 7 || c.Kind == 11 {
		delete(w.there, c.Job)
	}
	w.look(was, c, r)
}

// leased: what a lease tells is due, and no lease that is not over holds it.
func (w *walk) leased(r api.Reply) {
	if due, ok := w.due[r.Job]; !ok || due > w.s.Now {
		w.t.Errorf("P20.3: at %d lease tells %+v, which waits until %d", w.s.Now, r, due)
	}
	for h, until := range w.holds {
		if h.id == r.Job && until > w.s.Now || h.token == r.Token {
			w.t.Errorf("P20.3: at %d lease tells %+v, beside token %d up to %d", w.s.Now, r, h.token, until)
		}
	}
	w.holds[hold{r.Job, r.Token}] = r.Due
}

// held: who is obeyed has a token that holds.
func (w *walk) held(was State, c api.Command, r api.Reply) {
	h := hold{c.Job, c.Token}
	if until, ok := w.holds[h]; !ok || until <= was.Now {
		w.t.Errorf("P20.3: at %d %+v is obeyed, which holds up to %d", was.Now, c, until)
	}
	delete(w.holds, h)
	if c.Kind == 4 {
		w.holds[h] = r.Due
	}
}

// look: what was told and not taken away is there, and nothing else; and notes what waits.
func (w *walk) look(was State, c api.Command, r api.Reply) {
	if len(w.s.Jobs) != len(w.there) {
		w.t.Errorf("P20.4: behind %+v of %+v there are %+v, and should be %v", c, was, w.s.Jobs, w.there)
	}
	clear(w.due)
	for _, j := range w.s.Jobs {
		if !w.there[j.ID] {
			w.t.Errorf("P20.4: behind %+v of %+v there is %+v", c, was, j)
		}
		if j.Status == 1 {
			w.due[j.ID] = j.Due
		}
		if j.Rule == "" && j.Status != 3 && j.Tries >= w.s.Limits.Tries {
			w.t.Errorf("P20.4: behind %+v of %+v there is %+v, with the limits %+v", c, was, j, w.s.Limits)
		}
	}
}

// P20.3, P20.4, P20.5

func TestWalks(t *testing.T) {
	for seed := range int64(60) {
		w := start(t, seed)
		for range 300 {
			w.tick()
			w.step()
		}
		if t.Failed() {
			t.Fatalf("of the walk %d", seed)
		}
	}
}

// TestWhatFollowsMayBe: P20.5, of maps at all bounds.
func TestWhatFollowsMayBe(t *testing.T) {
	dice := rand.New(rand.NewSource(205))
	for range 20000 {
		s := someState(dice, dice.Intn(12))
		for range 4 {
			next, _, e := Step(s, someCommand(dice, s))
			if e != api.OK || !allowed(next) || Check(next) != api.OK {
				t.Fatalf("P20.5: behind %+v: %+v, error %d", s, next, e)
			}
			if s, e = Tick(next, min(next.Now+dice.Intn(5), year3000-1)); e != api.OK || !allowed(s) || Check(s) != api.OK {
				t.Fatalf("P20.5: behind %+v: %+v, error %d", next, s, e)
			}
		}
	}
}

// P20.3

func TestASecondHolderHasAnotherToken(t *testing.T) {
	s := at(0, waiting(1, 0))
	s, first := steps(t, "P20.3", s, lease(1, 5))
	s, _ = Tick(s, 4)
	if _, r := steps(t, "P20.3: ahead of the end", s, lease(2, 5)); r.Err != api.ErrNone {
		t.Errorf("P20.3: a second lease ahead of the end of the first: %+v", r)
	}
	s, _ = Tick(s, 5)
	s, r := steps(t, "P20.3: at the end", s, beat(1, first.Token, 9))
	if r.Err != api.ErrToken {
		t.Errorf("P20.3: beat of a lease that is over: %+v", r)
	}
	s, _ = Tick(s, 9)
	s, second := steps(t, "P20.3: behind the failure", s, lease(2, 5))
	if second.Job != 1 || second.Token == first.Token {
		t.Errorf("P20.3: the second lease: %+v, the first: %+v", second, first)
	}
	for _, c := range holds(1, first.Token) {
		if _, r := steps(t, "P20.3: with the first token", s, c); r.Err != api.ErrToken {
			t.Errorf("P20.3: %+v with the first token: %+v", c, r)
		}
	}
	if _, r := steps(t, "P20.3: with the second token", s, ack(1, second.Token)); r.Err != api.OK {
		t.Errorf("P20.3: ack with the second token: %+v", r)
	}
}

// P20.4

// fails leases a map's only job as soon as it is due, and lets it fail.
func fails(t *testing.T, s State, byNack bool) State {
	t.Helper()
	s, e := Tick(s, max(s.Now, s.Jobs[0].Due))
	if e != api.OK {
		t.Fatalf("P20.4: Tick: error %d", e)
	}
	s, r := steps(t, "P20.4: lease", s, lease(1, 5))
	if r.Err != api.OK {
		t.Fatalf("P20.4: lease of %+v: %+v", s, r)
	}
	if byNack {
		s, _ = steps(t, "P20.4: nack", s, nack(r.Job, r.Token))
		return s
	}
	s, _ = Tick(s, s.Now+5)
	s, _ = steps(t, "P20.4: sweep", s, sweep())
	return s
}

func TestOfSoManyFailuresAsTheLimitsTell(t *testing.T) {
	for tries := 1; tries <= 16; tries++ {
		for _, byNack := range []bool{true, false} {
			s, _ := New(backoff.Limits{Base: 2, Cap: 50, Tries: tries})
			s, _ = steps(t, "P20.4", s, enqueue("n", 1, "p"))
			for k := range tries {
				if s.Jobs[0].Status != 1 || s.Jobs[0].Tries != k {
					t.Fatalf("P20.4: behind %d of %d failures: %+v", k, tries, s.Jobs)
				}
				s = fails(t, s, byNack)
			}
			if want := (job.Job{ID: 1, Name: "n", Payload: "p", Status: 3, Due: s.Now, Tries: tries}); s.Jobs[0] != want {
				t.Errorf("P20.4: behind %d failures: %+v, want %+v", tries, s.Jobs[0], want)
			}
		}
	}
}

func TestARecurringOneDoesNotDie(t *testing.T) {
	s, _ := New(limits)
	s, _ = steps(t, "P20.4", s, schedule("n", minutely, "p"))
	for range 20 {
		s = fails(t, s, true)
		if s.Jobs[0].Status != 1 || s.Jobs[0].Tries >= 3 {
			t.Fatalf("P20.4: a recurring one that failed: %+v", s.Jobs)
		}
	}
}
