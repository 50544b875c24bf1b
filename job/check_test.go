package job

import (
	"math"
	"strings"
	"testing"

	"tickler/api"
)

// may fails unless Check takes a job as wanted.
func may(t *testing.T, what string, j Job, want bool) {
	t.Helper()
	why := api.ErrState
	if want {
		why = api.OK
	}
	if e := Check(j); e != why {
		t.Errorf("P19.1: %s: Check(%+v): error %d, want %d", what, j, e, why)
	}
}

// bound is a number of a job, and what it may be in one status.
type bound struct {
	what        string
	set         func(j *Job, n int)
	least, most int
}

// always: the bounds of the numbers that each job has.
func always() []bound {
	return []bound{
		{"ID", func(j *Job, n int) { j.ID = n }, 1, 1 << 40},
		{"Tries", func(j *Job, n int) { j.Tries = n }, 0, 16},
	}
}

// free: the bounds of what a job has that nobody has.
func free() []bound {
	return append(always(),
		bound{"Due", func(j *Job, n int) { j.Due = n }, 0, 32503680000},
		bound{"Worker", func(j *Job, n int) { j.Worker = n }, 0, 0},
		bound{"Token", func(j *Job, n int) { j.Token = n }, 0, 0},
		bound{"Until", func(j *Job, n int) { j.Until = n }, 0, 0},
	)
}

// taken: the bounds of what a leased job has.
func taken() []bound {
	return append(always(),
		bound{"Due", func(j *Job, n int) { j.Due = n }, 0, 0},
		bound{"Worker", func(j *Job, n int) { j.Worker = n }, 1, 1 << 31},
		bound{"Token", func(j *Job, n int) { j.Token = n }, 1, 1 << 40},
		bound{"Until", func(j *Job, n int) { j.Until = n }, 0, 32503680000},
	)
}

// P19.1: Check

func TestCheckOfPlainJobs(t *testing.T) {
	may(t, "it waits", waiting(), true)
	may(t, "it is leased", held(), true)
	may(t, "it is dead", lost(), true)
	may(t, "it waits without a rule", ruleless(waiting()), true)
	may(t, "it is leased without a rule", ruleless(held()), true)
	may(t, "the least that waits", Job{ID: 1, Status: 1}, true)
	may(t, "the least that is leased", Job{ID: 1, Status: 2, Worker: 1, Token: 1}, true)
	may(t, "the least that is dead", Job{ID: 1, Status: 3}, true)
	may(t, "no job", Job{}, false)
	may(t, "without a status", Job{ID: 1}, false)
	may(t, "without an ID", Job{Status: 1}, false)
}

func TestCheckOfEachNumber(t *testing.T) {
	for _, c := range []struct {
		j      Job
		bounds []bound
	}{{waiting(), free()}, {held(), taken()}, {lost(), free()}} {
		for _, b := range c.bounds {
			inside := []int{b.least, b.most, b.least + (b.most-b.least)/2}
			outside := []int{b.least - 1, b.most + 1, -1, -b.most - 1, b.most + 1000, math.MinInt, math.MaxInt, b.least - 1<<32, b.most + 1<<42}
			for _, n := range inside {
				j := c.j
				b.set(&j, n)
				may(t, b.what, j, true)
			}
			for _, n := range outside {
				j := c.j
				b.set(&j, n)
				may(t, b.what, j, false)
			}
		}
	}
}

func TestCheckOfAStatusThatIsNone(t *testing.T) {
	for _, status := range []int{0, 4, 5, -1, -2, 256, 257, 1<<32 + 1, math.MinInt, math.MaxInt} {
		for _, j := range []Job{waiting(), held(), lost(), {ID: 1}} {
			j.Status = status
			may(t, "a status that is none", j, false)
		}
	}
}

func TestCheckOfAnotherStatus(t *testing.T) {
	for _, j := range []Job{waiting(), held(), lost(), ruleless(waiting()), ruleless(held())} {
		was := j
		for status := 1; status <= 3; status++ {
			j.Status = status
			dies := was.Rule == "" && was.Status == 1 && status == 3
			wakes := was.Status == 3 && status == 1
			may(t, "another status", j, status == was.Status || dies || wakes)
		}
	}
}

func TestCheckOfALeaseThatLacksSomething(t *testing.T) {
	for _, c := range []struct {
		worker, token, until int
		want                 bool
	}{{5, 9, 100, true}, {0, 9, 100, false}, {5, 0, 100, false}, {5, 9, 0, true}, {0, 0, 100, false}, {5, 0, 0, false}, {0, 9, 0, false}, {0, 0, 0, false}} {
		j := held()
		j.Worker, j.Token, j.Until = c.worker, c.token, c.until
		may(t, "a lease", j, c.want)
		for _, j := range []Job{waiting(), lost()} {
			j.Worker, j.Token, j.Until = c.worker, c.token, c.until
			may(t, "a holder of a job that is not leased", j, c.worker == 0 && c.token == 0 && c.until == 0)
		}
	}
}

func TestCheckOfTexts(t *testing.T) {
	for _, j := range []Job{waiting(), held(), lost()} {
		for _, n := range []int{0, 1, 31, 32, 33, 34, 200, 1000} {
			j.Name = strings.Repeat("\xff", n)
			may(t, "Name", j, n <= 32)
		}
		j.Name = ""
		for _, n := range []int{0, 1, 199, 200, 201, 202, 256, 1000} {
			j.Payload = strings.Repeat("\x00", n)
			may(t, "Payload", j, n <= 200)
		}
	}
}

func TestCheckOfRules(t *testing.T) {
	for _, j := range []Job{waiting(), held()} {
		for _, rule := range rules() {
			j.Rule = rule
			may(t, "a rule", j, true)
		}
		for _, rule := range []string{" ", "x", "* * * *", "* * * * * *", "60 * * * *", "* 24 * * *", "* * 0 * *", "* * * 13 *", "* * * * 8", "*,, * * * *", "\t* * * * *", long(201), long(202), padded(minutely, 201), long(400), long(401), strings.Repeat("x", 200)} {
			j.Rule = rule
			may(t, "no rule", j, false)
		}
	}
	for _, rule := range rules() {
		j := lost()
		j.Rule = rule
		may(t, "a dead one's rule", j, rule == "")
	}
}

func TestCheckIsTheChaptersWords(t *testing.T) {
	for _, j := range someJobs() {
		may(t, "one that may be", j, true)
	}
	for _, j := range wrongJobs() {
		may(t, "one that may not be", j, false)
	}
}
