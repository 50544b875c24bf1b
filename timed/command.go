package timed

import (
	"tickler/api"
	"tickler/cron"
	"tickler/job"
)

// topRule is how many octets a job's rule may have: fewer than cron would take.
const topRule = 200

// The kinds of commands.
const (
	_ = iota
	enqueueKind
	scheduleKind
	leaseKind
	beatKind
	ackKind
	nackKind
	cancelKind
	sweepKind
	deadKind
	requeueKind
	purgeKind
	kindCount
)

// deeds: what each kind of command does.
func (b *board) deeds() [kindCount]func(api.Command) api.Reply {
	return [kindCount]func(api.Command) api.Reply{
		enqueueKind:  b.enqueue,
		scheduleKind: b.schedule,
		leaseKind:    b.lease,
		beatKind:     b.beat,
		ackKind:      b.ack,
		nackKind:     b.nack,
		cancelKind:   b.cancel,
		sweepKind:    b.sweep,
		deadKind:     b.listDead,
		requeueKind:  b.requeue,
		purgeKind:    b.purge,
	}
}

// enqueue adds a job that waits from Due on, unless there is one with its name.
func (b *board) enqueue(c api.Command) api.Reply {
	refuseIf(len(c.ID) > api.MaxName, api.ErrName)
	refuseIf(!within(c.Due, 0, api.MaxTime-1), api.ErrRange)
	refuseIf(len(c.Payload) > api.MaxPayload, api.ErrLong)
	if at := b.findNamed(c.ID); at != nowhere {
		return tellOf(b.Jobs[at])
	}
	return b.add(job.Job{Name: c.ID, Payload: c.Payload, Due: c.Due})
}

// schedule adds a job that waits until its rule comes, unless there is one with its name.
func (b *board) schedule(c api.Command) api.Reply {
	refuseIf(len(c.ID) > api.MaxName, api.ErrName)
	rule, why := cron.Parse(c.Rule)
	refuseIf(why != api.OK, why)
	refuseIf(len(c.Rule) > topRule || len(c.Payload) > api.MaxPayload, api.ErrLong)
	if at := b.findNamed(c.ID); at != nowhere {
		return tellOf(b.Jobs[at])
	}
	// Neither the rule, which was just read, nor the second of a map that may be is refused.
	due, comes, _ := cron.Next(rule, b.Now)
	refuseIf(!comes, api.ErrNone)
	return b.add(job.Job{Name: c.ID, Rule: c.Rule, Payload: c.Payload, Due: due})
}

// lease gives the job away that is due first.
func (b *board) lease(c api.Command) api.Reply {
	refuseIf(!within(c.Worker, 1, api.MaxWorker) || !within(c.Secs, 1, api.MaxLease), api.ErrRange)
	isDue := func(j job.Job) bool { return j.Status == waits && j.Due <= b.Now }
	at := b.least(isDue, func(j job.Job) int { return j.Due })
	refuseIf(at == nowhere, api.ErrNone)
	refuseIf(b.Token >= topNumber, api.ErrFull)
	// It is not refused: the job may be and waits, and the holder is within the bounds that a job asks for.
	j, _ := job.Lease(b.Jobs[at], c.Worker, b.Token, b.until(c.Secs))
	b.Token++
	b.Jobs[at] = j
	return api.Reply{Job: j.ID, Token: j.Token, Due: j.Until, Payload: j.Payload}
}

// beat makes a lease end later, or earlier.
func (b *board) beat(c api.Command) api.Reply {
	refuseIf(!within(c.Secs, 1, api.MaxLease), api.ErrRange)
	at := b.mustHold(c)
	b.Jobs[at].Until = b.until(c.Secs)
	return api.Reply{Due: b.Jobs[at].Until}
}

// ack ends a lease whose job is done: it waits for the next time, or is gone.
func (b *board) ack(c api.Command) api.Reply {
	at := b.mustHold(c)
	// It is not refused: the job may be and is leased, and the second may be.
	j, again, _ := job.Finish(b.Jobs[at], b.Now)
	if !again {
		b.remove(at)
		return api.Reply{}
	}
	b.Jobs[at] = j
	return api.Reply{Due: j.Due}
}

// nack ends a lease whose job failed.
func (b *board) nack(c api.Command) api.Reply {
	j := b.fail(b.mustHold(c))
	if j.Status == dead {
		return api.Reply{}
	}
	return api.Reply{Due: j.Due}
}

// cancel takes a job away that nobody has, and that is not dead.
func (b *board) cancel(c api.Command) api.Reply {
	at := b.mustFind(func(j job.Job) bool { return j.ID == c.Job && j.Status != dead })
	j := b.Jobs[at]
	refuseIf(j.Status == leased && !b.isOver(j), api.ErrBusy)
	b.remove(at)
	return api.Reply{}
}

// sweep tells whose leases failed ahead of it.
func (b *board) sweep(c api.Command) api.Reply {
	return api.Reply{Jobs: b.failed}
}

// listDead tells which jobs are dead.
func (b *board) listDead(c api.Command) api.Reply {
	var l []int
	for _, j := range b.Jobs {
		if j.Status == dead {
			l = append(l, j.ID)
		}
	}
	return api.Reply{Jobs: l}
}

// requeue lets a dead job wait from now on.
func (b *board) requeue(c api.Command) api.Reply {
	at := b.mustBeDead(c)
	j := b.Jobs[at]
	refuseIf(b.findNamed(j.Name) != nowhere, api.ErrTwice)
	j.Status, j.Due, j.Tries = waits, b.Now, 0
	b.Jobs[at] = j
	return api.Reply{Due: j.Due}
}

// purge takes a dead job away.
func (b *board) purge(c api.Command) api.Reply {
	b.remove(b.mustBeDead(c))
	return api.Reply{}
}
