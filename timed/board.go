package timed

import (
	"slices"

	"tickler/api"
	"tickler/job"
)

const (
	// mostFail is how many leases that are over fail ahead of one command; the others wait for the next one, so that no step changes too many rows.
	mostFail = 8
	// nowhere is the place of a job that is not there, as package slices tells it.
	nowhere = -1
)

// board is a map while a command works on it: its jobs are its own, and may be changed.
type board struct {
	State
	// failed are the numbers of the jobs whose leases were over, in the order in which they failed.
	failed []int
}

// refusal is what a command panics with that is not obeyed.
type refusal struct {
	why api.Errno
}

// refuseIf ends the command, if that is so.
func refuseIf(so bool, why api.Errno) {
	if so {
		panic(refusal{why})
	}
}

// obey: what a command tells that is done.
func (b *board) obey(c api.Command) (r api.Reply) {
	defer func() {
		fault := recover()
		if fault == nil {
			return
		}
		// Of one value, so that a fault of the program's own would not be taken for a refusal.
		r = api.Reply{Err: fault.(refusal).why}
	}()
	return b.deeds()[c.Kind](c)
}

// failLeases fails leases that are over, the one first that ended first.
func (b *board) failLeases() {
	for range mostFail {
		at := b.least(b.isOver, func(j job.Job) int { return j.Until })
		if at == nowhere {
			return
		}
		b.failed = append(b.failed, b.Jobs[at].ID)
		b.fail(at)
	}
}

// isOver: is a job's lease over?
func (b *board) isOver(j job.Job) bool {
	return j.Status == leased && j.Until <= b.Now
}

// fail: what became of the leased job at a place that failed now.
func (b *board) fail(at int) job.Job {
	// It is not refused: the map may be, so that the limits, the second and the job may be.
	b.Jobs[at], _ = job.Fail(b.Jobs[at], b.Limits, b.Now)
	return b.Jobs[at]
}

// least: where of the jobs that are meant the one with the least number is, of several the one with the least ID.
func (b *board) least(meant func(job.Job) bool, number func(job.Job) int) int {
	at := nowhere
	for i, j := range b.Jobs {
		if meant(j) && (at == nowhere || number(j) < number(b.Jobs[at])) {
			at = i
		}
	}
	return at
}

// find: where the first job is that is meant.
func (b *board) find(meant func(job.Job) bool) int {
	return slices.IndexFunc(b.Jobs, meant)
}

// findNamed: where the job is that has a name, and is not dead; no job has the empty one.
func (b *board) findNamed(name string) int {
	return b.find(func(j job.Job) bool { return name != "" && j.Name == name && j.Status != dead })
}

// mustFind: where the job is that is meant; without one the command is refused.
func (b *board) mustFind(meant func(job.Job) bool) int {
	at := b.find(meant)
	refuseIf(at == nowhere, api.ErrNone)
	return at
}

// mustHold: where the job is that a command's token holds; the command is refused if it holds none.
func (b *board) mustHold(c api.Command) int {
	at := b.mustFind(func(j job.Job) bool { return j.ID == c.Job })
	j := b.Jobs[at]
	refuseIf(j.Status != leased || j.Token != c.Token || b.isOver(j), api.ErrToken)
	return at
}

// mustBeDead: where the dead job is that a command speaks of; the command is refused if it is none.
func (b *board) mustBeDead(c api.Command) int {
	return b.mustFind(func(j job.Job) bool { return j.ID == c.Job && j.Status == dead })
}

// until: when a lease of so many seconds ends.
func (b *board) until(secs int) int {
	return min(b.Now+secs, api.MaxTime)
}

// add: what is told of a new job, which waits.
func (b *board) add(j job.Job) api.Reply {
	refuseIf(len(b.Jobs) >= api.MaxJobs || b.Next >= topNumber, api.ErrFull)
	j.ID, j.Status = b.Next, waits
	b.Next++
	b.Jobs = append(b.Jobs, j)
	return tellOf(j)
}

// remove takes the job at a place away.
func (b *board) remove(at int) {
	b.Jobs = slices.Delete(b.Jobs, at, at+1)
}

// tellOf: what is told of a job that is new, or there already.
func tellOf(j job.Job) api.Reply {
	return api.Reply{Job: j.ID, Due: j.Due}
}
