package timed

import (
	"testing"

	"tickler/api"
	"tickler/job"
)

// P20.2: cancel

func TestCancel(t *testing.T) {
	s := at(10, named("n", waiting(2, 5)), ruled(minutely, waiting(3, 60)), held(4, 1, 11), lost(5, 9), held(7, 2, 99))
	told(t, "P20.2: cancel of a waiting one", s, cancel(2), without(s, 2), api.Reply{})
	told(t, "P20.2: cancel of a recurring one", s, cancel(3), without(s, 3), api.Reply{})
	refused(t, "P20.2: cancel of a leased one", s, cancel(4), api.ErrBusy)
	refused(t, "P20.2: cancel of a leased one", s, cancel(7), api.ErrBusy)
	refused(t, "P20.2: cancel of a dead one", s, cancel(5), api.ErrNone)
	for _, id := range append(extremes(), 6, 8) {
		if id != 2 && id != 3 {
			refused(t, "P20.2: cancel of none", s, cancel(id), api.ErrNone)
		}
	}
}

func TestCancelOfOneWhoseLeaseIsOver(t *testing.T) {
	s := at(10, held(2, 1, 10), tried(2, held(3, 2, 9)))
	told(t, "P20.2: cancel of one whose lease is over", s, cancel(2), at2(s, tried(3, lost(3, 10))), api.Reply{})
	told(t, "P20.2: cancel of one that died just now", s, cancel(3), with(with(s, tried(1, waiting(2, 14))), tried(3, lost(3, 10))), api.Reply{Err: api.ErrNone})
	nine := overdue(9)
	gone := failedFirst(nine, 8)
	told(t, "P20.2: cancel of one whose lease is over, and has not failed", nine, cancel(9), without(gone, 9), api.Reply{})
}

// at2: the map without job 2, and with another job for one of its own.
func at2(s State, j job.Job) State {
	return with(without(s, 2), j)
}

// overdue: a map at second 10 of so many jobs whose leases are over, the one with the lowest number first.
func overdue(count int) State {
	s := at(10)
	for i := range count {
		s.Jobs = append(s.Jobs, held(i+1, i+1, i))
	}
	s.Next, s.Token = 100, 100
	return s
}

// failedFirst: the map of overdue when the first jobs have failed.
func failedFirst(s State, count int) State {
	for i := range count {
		s = with(s, tried(1, waiting(i+1, 14)))
	}
	return s
}

// P20.2: dead

func TestDead(t *testing.T) {
	for _, c := range []struct {
		s    State
		want []int
	}{
		{at(10), nil},
		{at(10, waiting(1, 5), held(2, 1, 20)), nil},
		{at(10, lost(7, 3)), []int{7}},
		{at(10, lost(1, 9), waiting(2, 5), lost(3, 1), held(4, 1, 20), lost(8, 5)), []int{1, 3, 8}},
		{at(10, lost(2, 9), named("n", lost(3, 1)), named("n", lost(4, 12))), []int{2, 3, 4}},
	} {
		told(t, "P20.2: dead", c.s, listing(), c.s, api.Reply{Jobs: c.want})
	}
	s := at(10, lost(1, 9), tried(2, held(2, 1, 10)), lost(3, 9))
	told(t, "P20.2: dead of one that died just now", s, listing(), with(s, tried(3, lost(2, 10))), api.Reply{Jobs: []int{1, 2, 3}})
	full := many(10, 1024)
	var all []int
	for i := range full.Jobs {
		full.Jobs[i] = lost(i+1, 0)
		all = append(all, i+1)
	}
	told(t, "P20.2: dead of all", full, listing(), full, api.Reply{Jobs: all})
}

// P20.2: requeue

func TestRequeue(t *testing.T) {
	x := loaded("p", tried(3, lost(3, 9)))
	s := at(10, named("w", waiting(1, 5)), named("h", held(2, 1, 20)), named("x", x), named("x", lost(4, 9)), named("w", lost(5, 9)), named("h", lost(6, 9)), lost(7, 9), lost(9, 9))
	told(t, "P20.2: requeue", s, requeue(3), with(s, loaded("p", named("x", waiting(3, 10)))), api.Reply{Due: 10})
	told(t, "P20.2: requeue of one without a name", s, requeue(7), with(s, waiting(7, 10)), api.Reply{Due: 10})
	refused(t, "P20.2: requeue where a waiting one has the name", s, requeue(5), api.ErrTwice)
	refused(t, "P20.2: requeue where a leased one has the name", s, requeue(6), api.ErrTwice)
	refused(t, "P20.2: requeue of a waiting one", s, requeue(1), api.ErrNone)
	refused(t, "P20.2: requeue of a leased one", s, requeue(2), api.ErrNone)
	for _, id := range append(extremes(), 8, 10) {
		if id < 1 || id > 3 {
			refused(t, "P20.2: requeue of none", s, requeue(id), api.ErrNone)
		}
	}
	twin := with(s, loaded("p", named("x", waiting(3, 10))))
	refused(t, "P20.2: requeue behind another of the name", twin, requeue(4), api.ErrTwice)
	refused(t, "P20.2: requeue of what waits again", twin, requeue(3), api.ErrNone)
	last := at(year3000-1, tried(16, lost(1, 9)))
	told(t, "P20.2: requeue at the last second", last, requeue(1), with(last, waiting(1, year3000-1)), api.Reply{Due: year3000 - 1})
}

func TestRequeueOfOneThatDiedJustNow(t *testing.T) {
	s := at(10, tried(2, held(2, 1, 10)))
	told(t, "P20.2: requeue of one that died just now", s, requeue(2), with(s, waiting(2, 10)), api.Reply{Due: 10})
	told(t, "P20.2: purge of one that died just now", s, purge(2), without(s, 2), api.Reply{})
}

// P20.2: purge

func TestPurge(t *testing.T) {
	s := at(10, waiting(1, 5), held(2, 1, 20), named("n", lost(3, 9)), named("n", waiting(4, 9)), lost(7, 9))
	told(t, "P20.2: purge", s, purge(3), without(s, 3), api.Reply{})
	told(t, "P20.2: purge of the last", s, purge(7), without(s, 7), api.Reply{})
	refused(t, "P20.2: purge of a waiting one", s, purge(1), api.ErrNone)
	refused(t, "P20.2: purge of a leased one", s, purge(2), api.ErrNone)
	refused(t, "P20.2: purge of another waiting one", s, purge(4), api.ErrNone)
	for _, id := range append(extremes(), 5, 6, 8) {
		if id != 3 {
			refused(t, "P20.2: purge of none", s, purge(id), api.ErrNone)
		}
	}
	only := at(10, lost(1, 0))
	told(t, "P20.2: purge of the only one", only, purge(1), without(only, 1), api.Reply{})
}

func TestNumberedCommandsTellNothingOfTheirOtherFields(t *testing.T) {
	s := at(10, waiting(1, 5), lost(2, 5))
	c := api.Command{ID: "n", Due: -5, Payload: "p", Rule: "x", Worker: -1, Secs: -1, Token: 78}
	for _, x := range []struct {
		kind, id int
		want     State
		reply    api.Reply
	}{
		{7, 1, without(s, 1), api.Reply{}},
		{8, 1, s, api.Reply{}},
		{9, 1, s, api.Reply{Jobs: []int{2}}},
		{10, 2, with(s, waiting(2, 10)), api.Reply{Due: 10}},
		{11, 2, without(s, 2), api.Reply{}},
	} {
		c.Kind, c.Job = x.kind, x.id
		told(t, "P20.2: a command with all fields", s, c, x.want, x.reply)
	}
}

// A number is not told twice: what is gone leaves its number behind.
func TestNumbersOfWhatIsGoneAreNotTakenAgain(t *testing.T) {
	s := at(10, waiting(1, 5), lost(2, 5))
	for _, c := range []api.Command{cancel(1), purge(2)} {
		s, _ = steps(t, "P20.2: what is gone", s, c)
	}
	_, r := steps(t, "P20.2: a new one", s, enqueue("", 5, ""))
	if r.Job != 3 {
		t.Errorf("P20.2: behind jobs 1 and 2, which are gone, a new one is %d", r.Job)
	}
}
