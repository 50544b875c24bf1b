package timed

import (
	"math"
	"strings"
	"testing"

	"tickler/api"
	"tickler/job"
)

// P20.2: the kinds

func TestStepOfKindsThatAreNone(t *testing.T) {
	s := at(10, waiting(1, 5), held(2, 1, 5), lost(3, 9))
	for _, kind := range []int{0, -1, 12, 13, 256, 257, math.MinInt, math.MaxInt, 1<<32 + 1} {
		got, r, e := Step(s, api.Command{Kind: kind, Job: 1, Worker: 1, Secs: 1})
		if e != api.ErrKind || !isNone(got) || !sameReply(r, api.Reply{}) {
			t.Errorf("P20.2: Step of kind %d: %+v, %+v, error %d", kind, got, r, e)
		}
	}
	for kind := 1; kind <= 11; kind++ {
		if got, _, e := Step(s, api.Command{Kind: kind}); e != api.OK || got.Limits != limits {
			t.Errorf("P20.2: Step of kind %d: %+v, error %d", kind, got, e)
		}
	}
}

// P20.2: enqueue

// entered: the map behind a job that is new.
func entered(s State, j job.Job) State {
	s = copied(s)
	j.ID, j.Status = s.Next, 1
	s.Next++
	s.Jobs = append(s.Jobs, j)
	return s
}

func TestEnqueue(t *testing.T) {
	empty := at(0)
	told(t, "P20.2: enqueue", empty, enqueue("", 5, "p"), entered(empty, job.Job{Payload: "p", Due: 5}), api.Reply{Job: 1, Due: 5})
	s := at(10, named("n", waiting(1, 5)), named("m", held(4, 1, 20)), lost(9, 9))
	for _, due := range []int{0, 9, 10, 11, year3000 - 1} {
		told(t, "P20.2: enqueue", s, enqueue("k", due, "p"), entered(s, job.Job{Name: "k", Payload: "p", Due: due}), api.Reply{Job: 10, Due: due})
		told(t, "P20.2: enqueue", s, enqueue("", due, ""), entered(s, job.Job{Due: due}), api.Reply{Job: 10, Due: due})
	}
}

func TestEnqueueAtTheBounds(t *testing.T) {
	s := at(10, waiting(1, 5))
	name, payload := strings.Repeat("\xff", 32), strings.Repeat("\x00", 200)
	told(t, "P20.2: enqueue", s, enqueue(name, 5, payload), entered(s, job.Job{Name: name, Payload: payload, Due: 5}), api.Reply{Job: 2, Due: 5})
	refused(t, "P20.2: enqueue: a name of 33 octets", s, enqueue(name+"x", 5, payload), api.ErrName)
	refused(t, "P20.2: enqueue: a payload of 201 octets", s, enqueue(name, 5, payload+"x"), api.ErrLong)
	for _, due := range []int{-1, year3000, year3000 + 1, math.MinInt, math.MaxInt} {
		refused(t, "P20.2: enqueue: a second that is none", s, enqueue("n", due, "p"), api.ErrRange)
		refused(t, "P20.2: enqueue: a second that is none, and a payload too long", s, enqueue("n", due, payload+"x"), api.ErrRange)
		refused(t, "P20.2: enqueue: a second that is none, and a name too long", s, enqueue(name+"x", due, payload+"x"), api.ErrName)
	}
}

func TestEnqueueOfANameThatIsThere(t *testing.T) {
	s := at(10, named("w", ruled(minutely, waiting(2, 7))), named("h", held(3, 1, 20)), named("x", lost(4, 9)), waiting(5, 3))
	told(t, "P20.2: enqueue of a waiting one's name", s, enqueue("w", 8, "q"), s, api.Reply{Job: 2, Due: 7})
	told(t, "P20.2: enqueue of a leased one's name", s, enqueue("h", 8, "q"), s, api.Reply{Job: 3, Due: 0})
	told(t, "P20.2: enqueue of a dead one's name", s, enqueue("x", 8, "q"), entered(s, job.Job{Name: "x", Payload: "q", Due: 8}), api.Reply{Job: 6, Due: 8})
	told(t, "P20.2: enqueue of no name", s, enqueue("", 8, "q"), entered(s, job.Job{Payload: "q", Due: 8}), api.Reply{Job: 6, Due: 8})
	told(t, "P20.2: enqueue of a longer name", s, enqueue("ww", 8, "q"), entered(s, job.Job{Name: "ww", Payload: "q", Due: 8}), api.Reply{Job: 6, Due: 8})
	refused(t, "P20.2: enqueue of a name that is there, too late", s, enqueue("w", year3000, "q"), api.ErrRange)
	refused(t, "P20.2: enqueue of a name that is there, with too much", s, enqueue("w", 8, strings.Repeat("q", 201)), api.ErrLong)
	both := entered(s, job.Job{Name: "x", Payload: "q", Due: 8})
	told(t, "P20.2: enqueue of a dead and a live one's name", both, enqueue("x", 9, "r"), both, api.Reply{Job: 6, Due: 8})
}

func TestEnqueueWhereThereIsNoRoom(t *testing.T) {
	s := many(10, 1023)
	s.Jobs[500].Name = "n"
	last := entered(s, job.Job{Name: "m", Due: 5})
	told(t, "P20.2: enqueue of the last job", s, enqueue("m", 5, ""), last, api.Reply{Job: 1024, Due: 5})
	refused(t, "P20.2: enqueue of one more", last, enqueue("k", 5, ""), api.ErrFull)
	refused(t, "P20.2: enqueue of one more without a name", last, enqueue("", 5, ""), api.ErrFull)
	refused(t, "P20.2: enqueue of one more, too late", last, enqueue("k", -1, ""), api.ErrRange)
	refused(t, "P20.2: enqueue of one more, with too much", last, enqueue("k", 5, strings.Repeat("q", 201)), api.ErrLong)
	told(t, "P20.2: enqueue of a name that is there, without room", last, enqueue("n", 5, ""), last, api.Reply{Job: 501, Due: 500})
	for i := range last.Jobs {
		last.Jobs[i] = lost(i+1, 0)
	}
	refused(t, "P20.2: enqueue beside so many dead ones", last, enqueue("k", 5, ""), api.ErrFull)
}

func TestEnqueueWhereThereIsNoNumber(t *testing.T) {
	s := at(10, named("n", waiting(1, 5)))
	s.Next = two40 - 1
	end := entered(s, job.Job{Due: 6})
	told(t, "P20.2: enqueue with the last number", s, enqueue("", 6, ""), end, api.Reply{Job: two40 - 1, Due: 6})
	refused(t, "P20.2: enqueue without a number", end, enqueue("", 6, ""), api.ErrFull)
	told(t, "P20.2: enqueue of a name that is there, without a number", end, enqueue("n", 6, ""), end, api.Reply{Job: 1, Due: 5})
}

func TestEnqueueTellsNothingOfItsOtherFields(t *testing.T) {
	s := at(10)
	c := api.Command{Kind: 1, ID: "n", Due: 5, Payload: "p", Rule: "x", Worker: -1, Secs: -1, Job: 77, Token: 78}
	told(t, "P20.2: enqueue with all fields", s, c, entered(s, job.Job{Name: "n", Payload: "p", Due: 5}), api.Reply{Job: 1, Due: 5})
}

// P20.2: schedule

func TestSchedule(t *testing.T) {
	for _, c := range []struct {
		rule     string
		now, due int
	}{
		{minutely, 0, 60},
		{minutely, 59, 60},
		{minutely, 60, 120},
		{minutely, year3000 - 61, year3000 - 60},
		{leapNoon, 1767225600, 1835438400},
		{"0 0 1 1 *", 0, 31536000},
		{padded(minutely, 200), 0, 60},
	} {
		s := at(c.now, waiting(3, 5))
		told(t, "P20.2: schedule", s, schedule("k", c.rule, "p"), entered(s, job.Job{Name: "k", Rule: c.rule, Payload: "p", Due: c.due}), api.Reply{Job: 4, Due: c.due})
		told(t, "P20.2: schedule without a name", s, schedule("", c.rule, ""), entered(s, job.Job{Rule: c.rule, Due: c.due}), api.Reply{Job: 4, Due: c.due})
	}
}

func TestScheduleTellsTheErrorsInTheirOrder(t *testing.T) {
	s := at(10, named("w", waiting(1, 5)))
	name, payload := strings.Repeat("n", 33), strings.Repeat("p", 201)
	refused(t, "P20.2: schedule: a name of 33 octets", s, schedule(name, minutely, "p"), api.ErrName)
	refused(t, "P20.2: schedule: a name of 33 octets, no rule, a payload too long", s, schedule(name, "", payload), api.ErrName)
	refused(t, "P20.2: schedule: no rule", s, schedule("n", "", "p"), api.ErrCount)
	refused(t, "P20.2: schedule: four fields", s, schedule("n", "* * * *", payload), api.ErrCount)
	refused(t, "P20.2: schedule: a field that is none", s, schedule("n", "60 * * * *", payload), api.ErrField)
	refused(t, "P20.2: schedule: a field that is none, in a long rule", s, schedule("n", padded("60 * * * *", 201), "p"), api.ErrField)
	refused(t, "P20.2: schedule: a rule of 201 octets", s, schedule("n", padded(minutely, 201), "p"), api.ErrLong)
	refused(t, "P20.2: schedule: a rule of 400 octets", s, schedule("n", padded(minutely, 400), "p"), api.ErrLong)
	refused(t, "P20.2: schedule: a rule of 401 octets", s, schedule("n", padded(minutely, 401), "p"), api.ErrLong)
	refused(t, "P20.2: schedule: a payload of 201 octets", s, schedule("n", minutely, payload), api.ErrLong)
	refused(t, "P20.2: schedule: a payload too long, with a name that is there", s, schedule("w", minutely, payload), api.ErrLong)
	refused(t, "P20.2: schedule: no rule, with a name that is there", s, schedule("w", "x", ""), api.ErrCount)
	refused(t, "P20.2: schedule: a rule that never comes, a payload too long", s, schedule("n", noDay, payload), api.ErrLong)
	refused(t, "P20.2: schedule: a rule that never comes", s, schedule("n", noDay, payload[:200]), api.ErrNone)
	told(t, "P20.2: schedule: a rule that never comes, with a name that is there", s, schedule("w", noDay, ""), s, api.Reply{Job: 1, Due: 5})
	full := many(10, 1024)
	refused(t, "P20.2: schedule without room", full, schedule("n", minutely, "p"), api.ErrFull)
	refused(t, "P20.2: schedule without room: a rule that never comes", full, schedule("n", noDay, "p"), api.ErrNone)
	refused(t, "P20.2: schedule without room: a name of 33 octets", full, schedule(name, minutely, "p"), api.ErrName)
}

func TestScheduleOfARuleThatComesNoMore(t *testing.T) {
	for _, now := range []int{year3000 - 60, year3000 - 1} {
		refused(t, "P20.2: schedule in the last minute", at(now), schedule("n", minutely, ""), api.ErrNone)
	}
	refused(t, "P20.2: schedule in the last year", at(year3000-61), schedule("n", "0 0 1 1 *", ""), api.ErrNone)
}

func TestScheduleOfANameThatIsThere(t *testing.T) {
	s := at(10, named("w", waiting(2, 7)), named("h", ruled(minutely, held(3, 1, 20))), named("x", lost(4, 9)), waiting(5, 3))
	told(t, "P20.2: schedule of a waiting one's name", s, schedule("w", minutely, "q"), s, api.Reply{Job: 2, Due: 7})
	told(t, "P20.2: schedule of a leased one's name", s, schedule("h", minutely, "q"), s, api.Reply{Job: 3, Due: 0})
	told(t, "P20.2: schedule of a dead one's name", s, schedule("x", minutely, "q"), entered(s, job.Job{Name: "x", Rule: minutely, Payload: "q", Due: 60}), api.Reply{Job: 6, Due: 60})
	full := many(10, 1024)
	full.Jobs[700].Name = "n"
	told(t, "P20.2: schedule of a name that is there, without room", full, schedule("n", minutely, ""), full, api.Reply{Job: 701, Due: 700})
}

func TestScheduleWhereThereIsNoNumber(t *testing.T) {
	name, payload := strings.Repeat("\x00", 32), strings.Repeat("\xff", 200)
	s := at(10)
	s.Next = two40 - 1
	end := entered(s, job.Job{Name: name, Rule: padded(minutely, 200), Payload: payload, Due: 60})
	told(t, "P20.2: schedule with the last number", s, schedule(name, padded(minutely, 200), payload), end, api.Reply{Job: two40 - 1, Due: 60})
	refused(t, "P20.2: schedule without a number", end, schedule("m", minutely, ""), api.ErrFull)
	refused(t, "P20.2: schedule without a number, of a rule that never comes", end, schedule("m", noDay, ""), api.ErrNone)
}

func TestScheduleTellsNothingOfItsOtherFields(t *testing.T) {
	s := at(10)
	c := api.Command{Kind: 2, ID: "n", Due: -5, Payload: "p", Rule: minutely, Worker: -1, Secs: -1, Job: 77, Token: 78}
	told(t, "P20.2: schedule with all fields", s, c, entered(s, job.Job{Name: "n", Rule: minutely, Payload: "p", Due: 60}), api.Reply{Job: 1, Due: 60})
}
