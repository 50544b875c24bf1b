package timed

import (
	"math"
	"strings"
	"testing"

	"tickler/api"
	"tickler/job"
)

// with: the map with another job for the one that has the number.
func with(s State, j job.Job) State {
	s = copied(s)
	for i := range s.Jobs {
		if s.Jobs[i].ID == j.ID {
			s.Jobs[i] = j
		}
	}
	return s
}

// without: the map without the job that has the number.
func without(s State, id int) State {
	var l []job.Job
	for _, j := range s.Jobs {
		if j.ID != id {
			l = append(l, j)
		}
	}
	s.Jobs = l
	return s
}

// leasedTo: the map as a worker has one of its jobs, up to a second.
func leasedTo(s State, id, worker, until int) State {
	var j job.Job
	for _, k := range s.Jobs {
		if k.ID == id {
			j = k
		}
	}
	j.Status, j.Due, j.Worker, j.Token, j.Until = 2, 0, worker, s.Token, until
	s = with(s, j)
	s.Token++
	return s
}

// P20.2: lease

func TestLease(t *testing.T) {
	s := at(10, loaded("p", named("n", tried(2, waiting(1, 10)))), held(2, 8, 20), lost(3, 0))
	told(t, "P20.2: lease", s, lease(7, 30), leasedTo(s, 1, 7, 40), api.Reply{Job: 1, Token: 9, Due: 40, Payload: "p"})
	again := leasedTo(s, 1, 7, 40)
	refused(t, "P20.2: lease of what is leased", again, lease(7, 30), api.ErrNone)
	recurring := at(60, ruled(minutely, tried(16, waiting(5, 60))))
	told(t, "P20.2: lease of a recurring one", recurring, lease(1, 1), leasedTo(recurring, 5, 1, 61), api.Reply{Job: 5, Token: 1, Due: 61})
}

func TestLeaseTakesTheFirstThatIsDue(t *testing.T) {
	for _, c := range []struct {
		dues []int
		want int
	}{
		{[]int{5, 5, 5}, 1},
		{[]int{5, 4, 5}, 2},
		{[]int{6, 5, 4}, 3},
		{[]int{6, 5, 5}, 2},
		{[]int{11, 10, 10}, 2},
		{[]int{11, 12, 10}, 3},
		{[]int{10, 0, 0}, 2},
		{[]int{11, 11, 9}, 3},
	} {
		s := at(10)
		for i, due := range c.dues {
			s.Jobs = append(s.Jobs, loaded(strings.Repeat("p", i), waiting(i+1, due)))
		}
		s.Next = 9
		told(t, "P20.2: lease of several", s, lease(3, 4), leasedTo(s, c.want, 3, 14), api.Reply{Job: c.want, Token: 1, Due: 14, Payload: strings.Repeat("p", c.want-1)})
	}
}

func TestLeaseWhereNoneIsDue(t *testing.T) {
	for _, jobs := range [][]job.Job{nil, {waiting(1, 11)}, {waiting(1, year3000)}, {held(1, 1, 11)}, {lost(1, 0), lost(2, 10)}, {waiting(1, 11), held(2, 1, 20), lost(3, 0), waiting(4, 12)}} {
		refused(t, "P20.2: lease of none", at(10, jobs...), lease(1, 1), api.ErrNone)
	}
	s := at(year3000-1, waiting(1, year3000))
	refused(t, "P20.2: lease of one that is never due", s, lease(1, 1), api.ErrNone)
}

func TestLeaseAtTheBounds(t *testing.T) {
	s := at(10, waiting(1, 10))
	for _, c := range []struct {
		worker, secs int
		want         api.Errno
	}{
		{1, 1, api.OK},
		{two31, 1, api.OK},
		{1, two20, api.OK},
		{two31, two20, api.OK},
		{0, 1, api.ErrRange},
		{-1, 1, api.ErrRange},
		{two31 + 1, 1, api.ErrRange},
		{math.MinInt, 1, api.ErrRange},
		{math.MaxInt, 1, api.ErrRange},
		{1, 0, api.ErrRange},
		{1, -1, api.ErrRange},
		{1, two20 + 1, api.ErrRange},
		{1, math.MinInt, api.ErrRange},
		{1, math.MaxInt, api.ErrRange},
		{0, 0, api.ErrRange},
	} {
		if c.want == api.OK {
			told(t, "P20.2: lease at the bounds", s, lease(c.worker, c.secs), leasedTo(s, 1, c.worker, 10+c.secs), api.Reply{Job: 1, Token: 1, Due: 10 + c.secs})
			continue
		}
		refused(t, "P20.2: lease beside the bounds", s, lease(c.worker, c.secs), c.want)
		refused(t, "P20.2: lease beside the bounds, of none", at(10), lease(c.worker, c.secs), c.want)
	}
}

func TestLeaseWhereThereIsNoToken(t *testing.T) {
	s := at(10, waiting(1, 10), waiting(2, 10))
	s.Token = two40 - 1
	last := leasedTo(s, 1, 1, 11)
	told(t, "P20.2: lease with the last token", s, lease(1, 1), last, api.Reply{Job: 1, Token: two40 - 1, Due: 11})
	refused(t, "P20.2: lease without a token", last, lease(1, 1), api.ErrFull)
	refused(t, "P20.2: lease without a token, to nobody", last, lease(0, 1), api.ErrRange)
	refused(t, "P20.2: lease without a token, of none", without(last, 2), lease(1, 1), api.ErrNone)
}

func TestLeaseEndsWithTheTime(t *testing.T) {
	for _, c := range []struct{ now, secs, until int }{
		{year3000 - 10, 9, year3000 - 1},
		{year3000 - 10, 10, year3000},
		{year3000 - 10, 11, year3000},
		{year3000 - 10, two20, year3000},
		{year3000 - 1, 1, year3000},
		{year3000 - 1, 2, year3000},
		{year3000 - 1, two20, year3000},
		{year3000 - two20, two20, year3000},
		{year3000 - two20 - 1, two20, year3000 - 1},
		{year3000 - two20 + 1, two20, year3000},
	} {
		s := at(c.now, waiting(1, c.now))
		told(t, "P20.2: lease near the end of the time", s, lease(1, c.secs), leasedTo(s, 1, 1, c.until), api.Reply{Job: 1, Token: 1, Due: c.until})
		j := held(1, 1, c.now+1)
		s = at(c.now, j)
		j.Until = c.until
		told(t, "P20.2: beat near the end of the time", s, beat(1, 1, c.secs), with(s, j), api.Reply{Due: c.until})
	}
}

func TestLeaseTellsNothingOfItsOtherFields(t *testing.T) {
	s := at(10, waiting(1, 3), waiting(2, 4))
	c := api.Command{Kind: 3, ID: strings.Repeat("n", 40), Due: -5, Payload: strings.Repeat("p", 999), Rule: "x", Worker: 6, Secs: 2, Job: 2, Token: 78}
	told(t, "P20.2: lease with all fields", s, c, leasedTo(s, 1, 6, 12), api.Reply{Job: 1, Token: 1, Due: 12})
}

// P20.2: beat, ack, nack: what their tokens hold

// holds: the three commands that need a token.
func holds(id, token int) []api.Command {
	return []api.Command{beat(id, token, 5), ack(id, token), nack(id, token)}
}

func TestOfATokenThatDoesNotHold(t *testing.T) {
	s := at(10, waiting(1, 5), held(2, 3, 11), lost(3, 9), held(4, 7, 99))
	for _, id := range append(extremes(), 5, 6) {
		if id >= 1 && id <= 4 {
			continue
		}
		for _, token := range []int{0, 3, 7, -1} {
			for _, c := range holds(id, token) {
				refused(t, "P20.2: a job that is not there", s, c, api.ErrNone)
			}
		}
	}
	for id := 1; id <= 4; id++ {
		for _, token := range append(extremes(), 4, 5, 6, 7, 8, 9) {
			for _, c := range holds(id, token) {
				if id == 2 && token == 3 || id == 4 && token == 7 {
					continue
				}
				refused(t, "P20.2: a token that does not hold", s, c, api.ErrToken)
			}
		}
	}
	for _, secs := range []int{0, -1, two20 + 1, math.MinInt, math.MaxInt} {
		refused(t, "P20.2: beat for no time", s, beat(2, 3, secs), api.ErrRange)
		refused(t, "P20.2: beat for no time, of none", s, beat(9, 3, secs), api.ErrRange)
		refused(t, "P20.2: beat for no time, with another token", s, beat(2, 4, secs), api.ErrRange)
	}
}

func TestOfATokenWhoseLeaseIsJustOver(t *testing.T) {
	s := at(10, loaded("p", held(2, 3, 10)))
	failed := with(s, loaded("p", tried(1, waiting(2, 14))))
	for _, c := range holds(2, 3) {
		told(t, "P20.2: a token whose lease is just over", s, c, failed, api.Reply{Err: api.ErrToken})
	}
	s = at(9, loaded("p", held(2, 3, 10)))
	told(t, "P20.2: ack of a lease that is nearly over", s, ack(2, 3), without(s, 2), api.Reply{})
}

// P20.2: beat

func TestBeat(t *testing.T) {
	held30 := loaded("p", named("n", ruled(minutely, tried(2, held(2, 3, 30)))))
	s := at(10, waiting(1, 5), held30, lost(3, 9))
	for _, secs := range []int{1, 2, 20, 21, two20} {
		j := held30
		j.Until = 10 + secs
		told(t, "P20.2: beat", s, beat(2, 3, secs), with(s, j), api.Reply{Due: 10 + secs})
	}
}

// P20.2: ack

func TestAck(t *testing.T) {
	s := at(70, waiting(1, 75), loaded("p", named("n", tried(2, held(2, 3, 90)))), lost(3, 9), loaded("q", named("m", ruled(minutely, tried(2, held(4, 5, 71))))), ruled(noDay, held(6, 4, 80)))
	told(t, "P20.2: ack", s, ack(2, 3), without(s, 2), api.Reply{})
	told(t, "P20.2: ack of a recurring one", s, ack(4, 5), with(s, loaded("q", named("m", ruled(minutely, waiting(4, 120))))), api.Reply{Due: 120})
	told(t, "P20.2: ack of one that comes no more", s, ack(6, 4), without(s, 6), api.Reply{})
	last := at(year3000-60, ruled(minutely, held(1, 1, year3000)))
	told(t, "P20.2: ack in the last minute", last, ack(1, 1), without(last, 1), api.Reply{})
}

// P20.2: nack

func TestNack(t *testing.T) {
	for _, c := range []struct {
		j    job.Job
		want job.Job
	}{
		{held(2, 3, 90), tried(1, waiting(2, 74))},
		{tried(1, held(2, 3, 90)), tried(2, waiting(2, 78))},
		{tried(2, held(2, 3, 90)), tried(3, lost(2, 70))},
		{tried(16, held(2, 3, 90)), tried(16, lost(2, 70))},
		{ruled(minutely, held(2, 3, 90)), ruled(minutely, tried(1, waiting(2, 74)))},
		{ruled(minutely, tried(1, held(2, 3, 90))), ruled(minutely, tried(2, waiting(2, 78)))},
		{ruled(minutely, tried(2, held(2, 3, 90))), ruled(minutely, waiting(2, 120))},
		{ruled(noDay, tried(1, held(2, 3, 90))), ruled(noDay, tried(2, waiting(2, 78)))},
		{ruled(noDay, tried(2, held(2, 3, 90))), tried(3, lost(2, 70))},
	} {
		j, want := loaded("p", named("n", c.j)), loaded("p", named("n", c.want))
		s := at(70, waiting(1, 75), j, lost(3, 9))
		due := want.Due
		if want.Status == 3 {
			due = 0
		}
		told(t, "P20.2: nack", s, nack(2, 3), with(s, want), api.Reply{Due: due})
	}
}

func TestNackNearTheEndOfTheTime(t *testing.T) {
	s := at(year3000-5, held(1, 1, year3000))
	told(t, "P20.2: nack ahead of the end", s, nack(1, 1), with(s, tried(1, waiting(1, year3000-1))), api.Reply{Due: year3000 - 1})
	s = at(year3000-4, held(1, 1, year3000))
	told(t, "P20.2: nack at the end", s, nack(1, 1), with(s, tried(1, lost(1, year3000-4))), api.Reply{})
}

func TestHoldersTellNothingOfTheirOtherFields(t *testing.T) {
	s := at(10, held(1, 1, 30))
	j := held(1, 1, 12)
	all := api.Command{Kind: 4, ID: strings.Repeat("n", 40), Due: -5, Payload: strings.Repeat("p", 999), Rule: "x", Worker: 99, Secs: 2, Job: 1, Token: 1}
	told(t, "P20.2: beat with all fields", s, all, with(s, j), api.Reply{Due: 12})
	all.Kind, all.Secs = 5, -1
	told(t, "P20.2: ack with all fields", s, all, without(s, 1), api.Reply{})
	all.Kind = 6
	told(t, "P20.2: nack with all fields", s, all, with(s, tried(1, waiting(1, 14))), api.Reply{Due: 14})
}
