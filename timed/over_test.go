package timed

import (
	"math/rand"
	"slices"
	"testing"

	"tickler/api"
	"tickler/job"
)

// P20.2: the leases that are over

func TestSweepOfNone(t *testing.T) {
	for _, s := range []State{at(10), at(10, waiting(1, 5), held(2, 1, 11), lost(3, 9))} {
		told(t, "P20.2: sweep of none", s, sweep(), s, api.Reply{})
	}
}

func TestSweepOfUpToEight(t *testing.T) {
	for count := 1; count <= 12; count++ {
		s := overdue(count)
		for i := range s.Jobs {
			s.Jobs[i].Until = min(s.Jobs[i].Until, 10)
		}
		first := min(count, 8)
		var want []int
		for i := range first {
			want = append(want, i+1)
		}
		told(t, "P20.2: sweep", s, sweep(), failedFirst(s, first), api.Reply{Jobs: want})
	}
}

func TestSweepOfTheNinth(t *testing.T) {
	s := overdue(9)
	s, r := steps(t, "P20.2: sweep", s, sweep())
	if !slices.Equal(r.Jobs, []int{1, 2, 3, 4, 5, 6, 7, 8}) {
		t.Errorf("P20.2: sweep of nine: %+v", r)
	}
	s, r = steps(t, "P20.2: sweep", s, sweep())
	if !slices.Equal(r.Jobs, []int{9}) {
		t.Errorf("P20.2: sweep again: %+v", r)
	}
	if s, r = steps(t, "P20.2: sweep", s, sweep()); len(r.Jobs) != 0 {
		t.Errorf("P20.2: sweep once more: %+v", r)
	}
}

func TestSweepIsByUntilAndThenByID(t *testing.T) {
	for _, c := range []struct{ untils, want []int }{
		{[]int{5, 5, 5}, []int{1, 2, 3}},
		{[]int{5, 4, 3}, []int{3, 2, 1}},
		{[]int{5, 4, 5}, []int{2, 1, 3}},
		{[]int{10, 11, 10}, []int{1, 3}},
		{[]int{10, 9, 12, 0}, []int{4, 2, 1}},
		{[]int{11, 12, 13}, nil},
		{[]int{9, 9, 9, 9, 9, 9, 9, 9, 9}, []int{1, 2, 3, 4, 5, 6, 7, 8}},
		{[]int{9, 9, 9, 9, 9, 9, 9, 9, 8}, []int{9, 1, 2, 3, 4, 5, 6, 7}},
		{[]int{9, 8, 7, 6, 5, 4, 3, 2, 1, 0}, []int{10, 9, 8, 7, 6, 5, 4, 3}},
	} {
		s := at(10)
		for i, until := range c.untils {
			s.Jobs = append(s.Jobs, held(i+1, len(c.untils)-i, until))
		}
		s.Next, s.Token = 20, 20
		want := s
		for _, id := range c.want {
			want = with(want, tried(1, waiting(id, 14)))
		}
		told(t, "P20.2: sweep", s, sweep(), want, api.Reply{Jobs: c.want})
	}
}

func TestWhatBecomesOfALeaseThatIsOver(t *testing.T) {
	s := at(70,
		held(1, 1, 70),
		tried(1, held(2, 2, 70)),
		tried(2, held(3, 3, 70)),
		ruled(minutely, held(4, 4, 70)),
		ruled(minutely, tried(2, held(5, 5, 70))),
		ruled(noDay, tried(2, held(6, 6, 70))),
		named("n", loaded("p", tried(16, held(7, 7, 70)))),
		held(8, 8, 71),
	)
	want := at(70,
		tried(1, waiting(1, 74)),
		tried(2, waiting(2, 78)),
		tried(3, lost(3, 70)),
		ruled(minutely, tried(1, waiting(4, 74))),
		ruled(minutely, waiting(5, 120)),
		tried(3, lost(6, 70)),
		named("n", loaded("p", tried(16, lost(7, 70)))),
		held(8, 8, 71),
	)
	told(t, "P20.2: sweep", s, sweep(), want, api.Reply{Jobs: []int{1, 2, 3, 4, 5, 6, 7}})
	told(t, "P20.2: dead, behind leases that were over", s, listing(), want, api.Reply{Jobs: []int{3, 6, 7}})
	told(t, "P20.2: enqueue of the name of one that died just now", s, enqueue("n", 5, ""), entered(want, job.Job{Name: "n", Due: 5}), api.Reply{Job: 9, Due: 5})
}

func TestOfALeaseThatIsOverWhereItCouldBeLeasedAgain(t *testing.T) {
	s := at(10, held(1, 1, 10), waiting(2, 11))
	s.Limits.Base, s.Limits.Cap = 1, 1
	told(t, "P20.2: lease of what failed just now", s, lease(1, 1), with(s, tried(1, waiting(1, 11))), api.Reply{Err: api.ErrNone})
}

// each: one command of each kind for the map of overdue, with a job that waits and one that is dead beside, that is obeyed, and one that is refused.
func each() (obeyed, not []api.Command) {
	obeyed = []api.Command{enqueue("n", 5, "p"), schedule("n", minutely, "p"), lease(1, 1), beat(21, 50, 5), ack(21, 50), nack(21, 50), cancel(20), sweep(), listing(), requeue(22), purge(22)}
	not = []api.Command{enqueue("n", -1, "p"), schedule("n", noDay, "p"), lease(0, 1), beat(21, 49, 5), ack(21, 51), nack(20, 50), cancel(21), cancel(90), requeue(20), purge(21), beat(1, 1, 1), ack(8, 8), nack(3, 3)}
	return obeyed, not
}

func TestLeasesFailAheadOfEachCommand(t *testing.T) {
	obeyed, not := each()
	for count := range 11 {
		s := overdue(count)
		s.Jobs = append(s.Jobs, waiting(20, 9), held(21, 50, 11), lost(22, 3))
		fewer := failedFirst(s, min(count, 8))
		for _, c := range obeyed {
			got, r := steps(t, "P20.2: behind leases that were over", s, c)
			if r.Err != api.OK {
				t.Errorf("P20.2: %+v behind %d leases that were over: error %d", c, count, r.Err)
			}
			for id := 1; id <= min(count, 8); id++ {
				if j, ok, _ := Find(got, id); !ok || j.Status != 1 || j.Tries != 1 || j.Due != 14 {
					t.Errorf("P20.2: %+v behind %d leases that were over: job %d is %+v", c, count, id, j)
				}
			}
		}
		for _, c := range not {
			got, r := steps(t, "P20.2: behind leases that were over", s, c)
			if r.Err == api.OK || !sameReply(r, api.Reply{Err: r.Err}) || !sameState(got, fewer) {
				t.Errorf("P20.2: %+v behind %d leases that were over: %+v, %+v", c, count, got, r)
			}
		}
	}
}

func TestOfANinthLeaseThatIsOver(t *testing.T) {
	s := overdue(9)
	failed := failedFirst(s, 8)
	for _, c := range holds(9, 9) {
		told(t, "P20.2: a lease that is over, and has not failed", s, c, failed, api.Reply{Err: api.ErrToken})
	}
	for _, c := range holds(8, 8) {
		told(t, "P20.2: a lease that is over, and has failed", s, c, failed, api.Reply{Err: api.ErrToken})
	}
	told(t, "P20.2: requeue of one whose lease is over", s, requeue(9), failed, api.Reply{Err: api.ErrNone})
	told(t, "P20.2: lease beside one whose lease is over", s, lease(1, 1), failed, api.Reply{Err: api.ErrNone})
	s.Jobs[8].Name = "n"
	failed = failedFirst(s, 8)
	told(t, "P20.2: enqueue of the name of one whose lease is over", s, enqueue("n", 5, ""), failed, api.Reply{Job: 9})
}

// All kinds, by chance

func TestStepIsTheChaptersWords(t *testing.T) {
	dice := rand.New(rand.NewSource(202))
	var replies [12]int
	for i := range 30000 {
		s := someState(dice, dice.Intn(14))
		c := someCommand(dice, s)
		if _, r := steps(t, "P20.2: by chance", s, c); r.Err == api.OK {
			replies[c.Kind]++
		}
		if i%3000 == 0 {
			s = someState(dice, 1023+dice.Intn(2))
			steps(t, "P20.2: of many, by chance", s, someCommand(dice, s))
		}
	}
	for kind := 1; kind <= 11; kind++ {
		if replies[kind] < 80 {
			t.Errorf("P20.2: kind %d was obeyed only %d times", kind, replies[kind])
		}
	}
}
