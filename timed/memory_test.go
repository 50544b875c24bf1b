package timed

import (
	"fmt"
	"math/rand"
	"slices"
	"strings"
	"sync"
	"testing"

	"tickler/api"
	"tickler/backoff"
	"tickler/job"
)

// question is what all calls are asked.
type question struct {
	s   State
	c   api.Command
	l   backoff.Limits
	now int
	id  int
}

// answers are what they answer.
type answers struct {
	made   State
	ticked State
	next   State
	reply  api.Reply
	found  job.Job
	ok     bool
	errs   [5]api.Errno
}

// ask asks all calls.
func ask(q question) answers {
	var a answers
	a.made, a.errs[0] = New(q.l)
	a.errs[1] = Check(q.s)
	a.ticked, a.errs[2] = Tick(q.s, q.now)
	a.next, a.reply, a.errs[3] = Step(q.s, q.c)
	a.found, a.ok, a.errs[4] = Find(q.s, q.id)
	return a
}

// same: are two answers one?
func same(a, b answers) bool {
	return sameState(a.made, b.made) && sameState(a.ticked, b.ticked) && sameState(a.next, b.next) && sameReply(a.reply, b.reply) && a.found == b.found && a.ok == b.ok && a.errs == b.errs
}

// questions: maps that may be and such that may not, and commands with numbers of all sizes.
func questions() []question {
	dice := rand.New(rand.NewSource(206))
	var l []question
	for range 1500 {
		s := someState(dice, dice.Intn(12))
		c := someCommand(dice, s)
		if dice.Intn(4) == 0 {
			disturb(dice, &s)
		}
		l = append(l, question{s, c, someLimits(dice), s.Now + dice.Intn(3), c.Job})
	}
	big := strings.Repeat("*", 1<<16)
	for _, n := range extremes() {
		for kind := range 13 {
			c := api.Command{Kind: kind, Due: n, Worker: n, Secs: n, Job: n, Token: n}
			l = append(l, question{at(10, waiting(1, 5), held(2, 1, 9), lost(3, 9)), c, backoff.Limits{Base: n, Cap: n, Tries: n}, n, n})
		}
		l = append(l, question{s: State{Limits: limits, Now: n, Next: n, Token: n, Jobs: []job.Job{{}, {ID: n, Status: n}}}, c: api.Command{Kind: n}})
	}
	for kind := range 13 {
		l = append(l, question{s: at(10, held(1, 1, 3)), c: api.Command{Kind: kind, ID: big, Rule: big, Payload: big}})
		l = append(l, question{s: State{Jobs: []job.Job{}}, c: api.Command{Kind: kind}})
	}
	return append(l, question{s: many(10, 1024), c: listing()}, question{s: many(10, 5000), c: listing()}, question{s: overdue(12), c: sweep(), id: 3})
}

// P1, P3: of all arguments, and of nothing else

func TestAnswersHangOnArgumentsAlone(t *testing.T) {
	l := questions()
	var first []answers
	for _, q := range l {
		first = append(first, ask(q))
	}
	for i := len(l) - 1; i >= 0; i-- {
		if again := ask(l[i]); !same(again, first[i]) {
			t.Errorf("P20.6: %+v: %+v, asked again %+v", l[i], first[i], again)
		}
	}
	var all sync.WaitGroup
	for worker := range 4 {
		all.Go(func() {
			for i := worker; i < len(l); i += 2 {
				if again := ask(l[i]); !same(again, first[i]) {
					t.Errorf("P20.6: %+v: %+v, asked beside others %+v", l[i], first[i], again)
				}
			}
		})
	}
	all.Wait()
}

// P20.6: P2 of DOC.md

func TestWhatIsHandedInStays(t *testing.T) {
	for _, q := range questions() {
		was := fmt.Sprintf("%+v", q)
		spare := append(slices.Clone(q.s.Jobs), job.Job{ID: 77}, job.Job{ID: 78})
		q.s.Jobs = spare[:len(q.s.Jobs)]
		ask(q)
		if is := fmt.Sprintf("%+v", q); is != was {
			t.Errorf("P20.6: %s behind the calls: %s", was, is)
		}
		if behind := spare[len(q.s.Jobs):]; behind[0].ID != 77 || behind[1].ID != 78 {
			t.Errorf("P20.6: %s: what lies behind the jobs that were handed in is %+v", was, behind)
		}
	}
}

// scribble writes over all memory that answers hold, and behind it.
func scribble(a answers) {
	for _, jobs := range [][]job.Job{a.made.Jobs, a.ticked.Jobs, a.next.Jobs} {
		jobs = jobs[:cap(jobs)]
		for i := range jobs {
			jobs[i] = job.Job{ID: -5, Name: "scribble"}
		}
	}
	told := a.reply.Jobs[:cap(a.reply.Jobs)]
	for i := range told {
		told[i] = -5
	}
}

func TestAnswersAreNewMemory(t *testing.T) {
	for _, q := range questions() {
		first := ask(q)
		was, want := fmt.Sprintf("%+v", q), fmt.Sprintf("%+v", first)
		second := ask(q)
		scribble(second)
		if is := fmt.Sprintf("%+v", q); is != was {
			t.Errorf("P20.6: %s behind scribbling over the answers: %s", was, is)
		}
		if is := fmt.Sprintf("%+v", first); is != want {
			t.Errorf("P20.6: %s behind scribbling over other answers: %s", want, is)
		}
		if is := fmt.Sprintf("%+v", ask(q)); is != want {
			t.Errorf("P20.6: %s, asked behind scribbling: %s", want, is)
		}
	}
}

// P4: beside an error, and beside a false, all else is zero

func TestBesideAnErrorAllElseIsZero(t *testing.T) {
	for _, q := range questions() {
		a := ask(q)
		empty := []bool{isNone(a.made), true, isNone(a.ticked), isNone(a.next) && sameReply(a.reply, api.Reply{}), a.found == job.Job{} && !a.ok}
		for i, e := range a.errs {
			if e != api.OK && !empty[i] {
				t.Errorf("P20.6: %+v: call %d answers something beside error %d: %+v", q, i, e, a)
			}
		}
		if a.errs[3] == api.OK && a.reply.Err != api.OK && !sameReply(a.reply, api.Reply{Err: a.reply.Err}) {
			t.Errorf("P20.6: %+v: a refusal tells %+v", q, a.reply)
		}
		if !a.ok && a.found != (job.Job{}) {
			t.Errorf("P20.6: %+v: Find answers %+v and false", q, a.found)
		}
	}
}
