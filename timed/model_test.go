package timed

import (
	"cmp"
	"maps"
	"math"
	"math/rand"
	"slices"
	"strings"
	"testing"

	"tickler/api"
	"tickler/backoff"
	"tickler/cron"
	"tickler/job"
)

const (
	year3000 = 32503680000
	two40    = 1099511627776
	two31    = 2147483648
	two20    = 1048576
)

// limits: three tries, behind the first two failures 4 and 8 seconds.
var limits = backoff.Limits{Base: 4, Cap: 9, Tries: 3}

// Rules of texts that the tests use: each minute, each noon of a February 29, and one that never comes.
const (
	minutely = "* * * * *"
	leapNoon = "0 12 29 2 *"
	noDay    = "0 0 30 2 *"
)

// padded: a rule of so many octets, of which all behind the fifth field are blanks.
func padded(rule string, n int) string {
	return rule + strings.Repeat(" ", n-len(rule))
}

// waiting, held and lost: plain jobs in each of the three statuses.
func waiting(id, due int) job.Job {
	return job.Job{ID: id, Status: 1, Due: due}
}

func held(id, token, until int) job.Job {
	return job.Job{ID: id, Status: 2, Worker: 5, Token: token, Until: until}
}

func lost(id, since int) job.Job {
	return job.Job{ID: id, Status: 3, Due: since}
}

// named, ruled, tried and loaded: a job that is otherwise the same.
func named(name string, j job.Job) job.Job {
	j.Name = name
	return j
}

func ruled(rule string, j job.Job) job.Job {
	j.Rule = rule
	return j
}

func tried(tries int, j job.Job) job.Job {
	j.Tries = tries
	return j
}

func loaded(payload string, j job.Job) job.Job {
	j.Payload = payload
	return j
}

// at: a map at a second, of jobs, whose next numbers are the least that may be.
func at(now int, jobs ...job.Job) State {
	s := State{Limits: limits, Now: now, Next: 1, Token: 1, Jobs: jobs}
	for _, j := range jobs {
		s.Next = max(s.Next, j.ID+1)
		s.Token = max(s.Token, j.Token+1)
	}
	return s
}

// many: a map at a second, of so many waiting jobs.
func many(now, count int) State {
	var l []job.Job
	for i := range count {
		l = append(l, waiting(i+1, i))
	}
	return at(now, l...)
}

// Commands.

func enqueue(name string, due int, payload string) api.Command {
	return api.Command{Kind: 1, ID: name, Due: due, Payload: payload}
}

func schedule(name, rule, payload string) api.Command {
	return api.Command{Kind: 2, ID: name, Rule: rule, Payload: payload}
}

func lease(worker, secs int) api.Command {
	return api.Command{Kind: 3, Worker: worker, Secs: secs}
}

func beat(id, token, secs int) api.Command {
	return api.Command{Kind: 4, Job: id, Token: token, Secs: secs}
}

func ack(id, token int) api.Command {
	return api.Command{Kind: 5, Job: id, Token: token}
}

func nack(id, token int) api.Command {
	return api.Command{Kind: 6, Job: id, Token: token}
}

func cancel(id int) api.Command {
	return api.Command{Kind: 7, Job: id}
}

func sweep() api.Command {
	return api.Command{Kind: 8}
}

func listing() api.Command {
	return api.Command{Kind: 9}
}

func requeue(id int) api.Command {
	return api.Command{Kind: 10, Job: id}
}

func purge(id int) api.Command {
	return api.Command{Kind: 11, Job: id}
}

// What two maps, and two replies, are held against each other by.

func sameState(a, b State) bool {
	return a.Limits == b.Limits && a.Now == b.Now && a.Next == b.Next && a.Token == b.Token && slices.Equal(a.Jobs, b.Jobs)
}

func sameReply(a, b api.Reply) bool {
	return a.Err == b.Err && a.Job == b.Job && a.Token == b.Token && a.Due == b.Due && a.Payload == b.Payload && slices.Equal(a.Jobs, b.Jobs)
}

func isNone(s State) bool {
	return s.Limits == backoff.Limits{} && s.Now == 0 && s.Next == 0 && s.Token == 0 && len(s.Jobs) == 0
}

// copied: a map that shares no memory.
func copied(s State) State {
	s.Jobs = slices.Clone(s.Jobs)
	return s
}

// allowed tells by the chapter's words whether a map may be.
func allowed(s State) bool {
	if backoff.Check(s.Limits) != api.OK || s.Now < 0 || s.Now >= year3000 || s.Next < 1 || s.Next > two40 || s.Token < 1 || s.Token > two40 || len(s.Jobs) > 1024 {
		return false
	}
	for i, j := range s.Jobs {
		if job.Check(j) != api.OK || j.ID >= s.Next || i > 0 && s.Jobs[i-1].ID >= j.ID || j.Status == 2 && j.Token >= s.Token {
			return false
		}
		for _, k := range s.Jobs[:i] {
			if j.Status == 2 && k.Status == 2 && j.Token == k.Token {
				return false
			}
			if j.Name != "" && j.Name == k.Name && j.Status != 3 && k.Status != 3 {
				return false
			}
		}
	}
	return true
}

// world is a map as the model keeps it: the jobs by their numbers.
type world struct {
	State
	jobs map[int]job.Job
}

func (w *world) numbers() []int {
	return slices.Sorted(maps.Keys(w.jobs))
}

// failed: the leases that are over, at most eight of them, fail; their jobs' numbers.
func (w *world) failed() []int {
	var l []int
	for id, j := range w.jobs {
		if j.Status == 2 && j.Until <= w.Now {
			l = append(l, id)
		}
	}
	slices.SortFunc(l, func(a, b int) int {
		return cmp.Or(cmp.Compare(w.jobs[a].Until, w.jobs[b].Until), cmp.Compare(a, b))
	})
	l = l[:min(len(l), 8)]
	for _, id := range l {
		w.jobs[id], _ = job.Fail(w.jobs[id], w.Limits, w.Now)
	}
	return l
}

// owner: the number of the job that has a name, and is not dead; 0 if there is none.
func (w *world) owner(name string) int {
	for id, j := range w.jobs {
		if name != "" && j.Name == name && j.Status != 3 {
			return id
		}
	}
	return 0
}

// enter is a new job, unless another one has the name.
func (w *world) enter(j job.Job) api.Reply {
	if len(w.jobs) == 1024 || w.Next == two40 {
		return api.Reply{Err: api.ErrFull}
	}
	j.ID, j.Status = w.Next, 1
	w.jobs[j.ID] = j
	w.Next++
	return api.Reply{Job: j.ID, Due: j.Due}
}

func (w *world) enqueue(c api.Command) api.Reply {
	switch id := w.owner(c.ID); {
	case len(c.ID) > 32:
		return api.Reply{Err: api.ErrName}
	case c.Due < 0, c.Due >= year3000:
		return api.Reply{Err: api.ErrRange}
	case len(c.Payload) > 200:
		return api.Reply{Err: api.ErrLong}
	case id != 0:
		return api.Reply{Job: id, Due: w.jobs[id].Due}
	}
	return w.enter(job.Job{Name: c.ID, Payload: c.Payload, Due: c.Due})
}

func (w *world) schedule(c api.Command) api.Reply {
	rule, why := cron.Parse(c.Rule)
	due, comes, _ := cron.Next(rule, w.Now)
	switch id := w.owner(c.ID); {
	case len(c.ID) > 32:
		return api.Reply{Err: api.ErrName}
	case why != api.OK:
		return api.Reply{Err: why}
	case len(c.Rule) > 200, len(c.Payload) > 200:
		return api.Reply{Err: api.ErrLong}
	case id != 0:
		return api.Reply{Job: id, Due: w.jobs[id].Due}
	case !comes:
		return api.Reply{Err: api.ErrNone}
	}
	return w.enter(job.Job{Name: c.ID, Rule: c.Rule, Payload: c.Payload, Due: due})
}

func (w *world) lease(c api.Command) api.Reply {
	if c.Worker < 1 || c.Worker > two31 || c.Secs < 1 || c.Secs > two20 {
		return api.Reply{Err: api.ErrRange}
	}
	first := 0
	for _, id := range w.numbers() {
		j := w.jobs[id]
		if j.Status == 1 && j.Due <= w.Now && (first == 0 || j.Due < w.jobs[first].Due) {
			first = id
		}
	}
	if first == 0 {
		return api.Reply{Err: api.ErrNone}
	}
	if w.Token == two40 {
		return api.Reply{Err: api.ErrFull}
	}
	j, until := w.jobs[first], w.ends(c.Secs)
	j.Status, j.Due, j.Worker, j.Token, j.Until = 2, 0, c.Worker, w.Token, until
	w.jobs[first] = j
	w.Token++
	return api.Reply{Job: first, Token: w.Token - 1, Due: until, Payload: j.Payload}
}

// ends: when a lease of so many seconds ends.
func (w *world) ends(secs int) int {
	if w.Now+secs > year3000 {
		return year3000
	}
	return w.Now + secs
}

// missing: why a command's token does not hold its job.
func (w *world) missing(c api.Command) api.Errno {
	j, there := w.jobs[c.Job]
	if !there {
		return api.ErrNone
	}
	if j.Status == 2 && j.Token == c.Token && j.Until > w.Now {
		return api.OK
	}
	return api.ErrToken
}

func (w *world) beat(c api.Command) api.Reply {
	if c.Secs < 1 || c.Secs > two20 {
		return api.Reply{Err: api.ErrRange}
	}
	if why := w.missing(c); why != api.OK {
		return api.Reply{Err: why}
	}
	j := w.jobs[c.Job]
	j.Until = w.ends(c.Secs)
	w.jobs[c.Job] = j
	return api.Reply{Due: j.Until}
}

func (w *world) ack(c api.Command) api.Reply {
	if why := w.missing(c); why != api.OK {
		return api.Reply{Err: why}
	}
	j, again, _ := job.Finish(w.jobs[c.Job], w.Now)
	delete(w.jobs, c.Job)
	if again {
		w.jobs[c.Job] = j
	}
	return api.Reply{Due: j.Due}
}

func (w *world) nack(c api.Command) api.Reply {
	if why := w.missing(c); why != api.OK {
		return api.Reply{Err: why}
	}
	w.jobs[c.Job], _ = job.Fail(w.jobs[c.Job], w.Limits, w.Now)
	if w.jobs[c.Job].Status == 3 {
		return api.Reply{}
	}
	return api.Reply{Due: w.jobs[c.Job].Due}
}

func (w *world) cancel(c api.Command) api.Reply {
	j, there := w.jobs[c.Job]
	if !there || j.Status == 3 {
		return api.Reply{Err: api.ErrNone}
	}
	if j.Status == 2 && j.Until > w.Now {
		return api.Reply{Err: api.ErrBusy}
	}
	delete(w.jobs, c.Job)
	return api.Reply{}
}

func (w *world) listing() api.Reply {
	var r api.Reply
	for _, id := range w.numbers() {
		if w.jobs[id].Status == 3 {
			r.Jobs = append(r.Jobs, id)
		}
	}
	return r
}

func (w *world) requeue(c api.Command) api.Reply {
	j := w.jobs[c.Job]
	if j.Status != 3 {
		return api.Reply{Err: api.ErrNone}
	}
	if w.owner(j.Name) != 0 {
		return api.Reply{Err: api.ErrTwice}
	}
	w.jobs[c.Job] = job.Job{ID: j.ID, Name: j.Name, Payload: j.Payload, Status: 1, Due: w.Now}
	return api.Reply{Due: w.Now}
}

func (w *world) purge(c api.Command) api.Reply {
	if w.jobs[c.Job].Status != 3 {
		return api.Reply{Err: api.ErrNone}
	}
	delete(w.jobs, c.Job)
	return api.Reply{}
}

// modelStep is P20.2, word by word.
func modelStep(s State, c api.Command) (State, api.Reply, api.Errno) {
	if !allowed(s) {
		return State{}, api.Reply{}, api.ErrState
	}
	if c.Kind <= 0 || c.Kind > 11 {
		return State{}, api.Reply{}, api.ErrKind
	}
	w := world{s, map[int]job.Job{}}
	for _, j := range s.Jobs {
		w.jobs[j.ID] = j
	}
	failed := w.failed()
	r := w.tell(c, failed)
	w.Jobs = nil
	for _, id := range w.numbers() {
		w.Jobs = append(w.Jobs, w.jobs[id])
	}
	return w.State, r, api.OK
}

func (w *world) tell(c api.Command, failed []int) api.Reply {
	switch c.Kind {
	case 1:
		return w.enqueue(c)
	case 2:
		return w.schedule(c)
	case 3:
		return w.lease(c)
	case 4:
		return w.beat(c)
	case 5:
		return w.ack(c)
	case 6:
		return w.nack(c)
	case 7:
		return w.cancel(c)
	case 8:
		return api.Reply{Jobs: failed}
	case 9:
		return w.listing()
	case 10:
		return w.requeue(c)
	}
	return w.purge(c)
}

// told fails unless a step of a map answers the map and the reply that are wanted; also if the model would not.
func told(t *testing.T, what string, s State, c api.Command, want State, reply api.Reply) {
	t.Helper()
	got, r, e := Step(s, c)
	if e != api.OK || !sameState(got, want) || !sameReply(r, reply) {
		t.Errorf("%s: Step(%+v, %+v):\n%+v, %+v, error %d; want\n%+v, %+v", what, s, c, got, r, e, want, reply)
	}
	if m, n, e := modelStep(s, c); e != api.OK || !sameState(m, want) || !sameReply(n, reply) {
		t.Errorf("%s: the model of Step(%+v, %+v):\n%+v, %+v, error %d; want\n%+v, %+v", what, s, c, m, n, e, want, reply)
	}
}

// refused fails unless a step of a map without leases that are over is refused, and changes nothing.
func refused(t *testing.T, what string, s State, c api.Command, why api.Errno) {
	t.Helper()
	told(t, what, s, c, s, api.Reply{Err: why})
}

// steps fails unless a step is what the model tells.
func steps(t *testing.T, what string, s State, c api.Command) (State, api.Reply) {
	t.Helper()
	got, r, e := Step(s, c)
	if want, reply, f := modelStep(s, c); e != f || !sameState(got, want) || !sameReply(r, reply) {
		t.Fatalf("%s: Step(%+v, %+v):\n%+v, %+v, error %d; want\n%+v, %+v, error %d", what, s, c, got, r, e, want, reply, f)
	}
	return got, r
}

// extremes: numbers at the bounds of what a map and a command may have, and of what int can be.
func extremes() []int {
	var l []int
	for _, n := range []int{0, 2, 12, 1024, two20, two31, year3000, two40, 1 << 62} {
		l = append(l, n-1, n, n+1, -n)
	}
	return append(l, math.MaxInt-1, math.MaxInt, math.MinInt, math.MinInt+1)
}

// pick draws one of several.
func pick[T any](dice *rand.Rand, l []T) T {
	return l[dice.Intn(len(l))]
}

// names: few, so that they meet, and none.
func names() []string {
	return []string{"", "", "a", "b", "\x00", strings.Repeat("n", 32)}
}

// rules: such as come often, seldom, and never.
func rules() []string {
	return []string{minutely, minutely, "*/20 1-5/2 * * 7", leapNoon, noDay, padded(minutely, 200)}
}

// drawn: a job with a number, at about a second, with a token of its own.
func drawn(dice *rand.Rand, id, now, token int) job.Job {
	j := job.Job{ID: id, Payload: pick(dice, []string{"", "p", strings.Repeat("\xff", 200)}), Status: 1 + dice.Intn(3), Tries: dice.Intn(5)}
	if dice.Intn(30) == 0 {
		j.Tries = 16
	}
	if j.Status != 3 && dice.Intn(3) == 0 {
		j.Rule = pick(dice, rules())
	}
	near := min(max(now-4+dice.Intn(8), 0), year3000)
	if j.Status != 2 {
		j.Due = near
		return j
	}
	j.Worker, j.Token, j.Until = 1+dice.Intn(3), token, near
	return j
}

// someNow draws a second, at the ends of the time often.
func someNow(dice *rand.Rand) int {
	return pick(dice, []int{0, 1, 59, 60, 1000, 1767225600, year3000 - 61, year3000 - 60, year3000 - 2, year3000 - 1})
}

// someLimits draws limits.
func someLimits(dice *rand.Rand) backoff.Limits {
	base := 1 << dice.Intn(8)
	return backoff.Limits{Base: base, Cap: base << dice.Intn(4), Tries: 1 + dice.Intn(5)}
}

// someState draws a map that may be, of so many jobs.
func someState(dice *rand.Rand, count int) State {
	s := State{Limits: someLimits(dice), Now: someNow(dice), Next: 1, Token: 1 + count}
	tokens := dice.Perm(count)
	taken := map[string]bool{"": true}
	for i := range count {
		j := drawn(dice, s.Next+dice.Intn(3), s.Now, 1+tokens[i])
		if name := pick(dice, names()); j.Status == 3 || !taken[name] {
			j.Name = name
			taken[name] = taken[name] || j.Status != 3
		}
		s.Jobs = append(s.Jobs, j)
		s.Next = j.ID + 1
	}
	return atTheirEnd(dice, s)
}

// atTheirEnd: few maps have used up their numbers.
func atTheirEnd(dice *rand.Rand, s State) State {
	if dice.Intn(10) == 0 {
		s.Next = two40 - dice.Intn(2)
	}
	if dice.Intn(10) == 0 {
		s.Token = two40 - dice.Intn(2)
	}
	return s
}

// someCommand draws a command for a map, such that many are obeyed and many are not.
func someCommand(dice *rand.Rand, s State) api.Command {
	c := api.Command{Kind: 1 + dice.Intn(11), ID: pick(dice, names()), Due: min(s.Now+dice.Intn(6), year3000-1), Rule: pick(dice, rules()), Payload: pick(dice, []string{"", "q", strings.Repeat("q", 200)}), Worker: 1 + dice.Intn(3), Secs: 1 + dice.Intn(6)}
	if len(s.Jobs) > 0 {
		j := pick(dice, s.Jobs)
		c.Job, c.Token = j.ID, j.Token
	}
	if dice.Intn(8) == 0 {
		spoil(dice, &c)
	}
	return c
}

// spoil makes a command one that should be refused, but for chance.
func spoil(dice *rand.Rand, c *api.Command) {
	switch dice.Intn(8) {
	case 0:
		c.ID = strings.Repeat("n", 33)
	case 1:
		c.Payload = strings.Repeat("q", 201)
	case 2:
		c.Rule = pick(dice, []string{"", "x", "60 * * * *", padded(minutely, 201), padded(minutely, 401)})
	case 3:
		c.Due = pick(dice, extremes())
	case 4:
		c.Worker = pick(dice, extremes())
	case 5:
		c.Secs = pick(dice, extremes())
	case 6:
		c.Job = pick(dice, extremes())
	case 7:
		c.Token = pick(dice, extremes())
	}
}
