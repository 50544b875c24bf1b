package job

import (
	"encoding/binary"
	"math"
	"math/bits"
	"math/rand"
	"strings"
	"testing"

	"tickler/api"
	"tickler/backoff"
	"tickler/cron"
)

const (
	year3000 = 32503680000
	two40    = 1099511627776
	two31    = 2147483648
)

// limits: those of the examples.
var limits = backoff.Limits{Base: 3, Cap: 20, Tries: 6}

// Rules of texts that the tests use: each minute, each noon of a February 29, and one that never comes.
const (
	minutely = "* * * * *"
	leapNoon = "0 12 29 2 *"
	noDay    = "0 0 30 2 *"
)

// padded: a rule of so many octets, of which all behind the fifth field are blanks.
func padded(rule string, n int) string {
	return rule + strings.Repeat(" ", n-len(rule))
}

// long: a rule of so many octets without a blank too many, up to 400.
func long(n int) string {
	rule := "* * * * 0"
	for len(rule)+2 <= n {
		rule += ",0"
	}
	return padded(rule, n)
}

// waiting, held and lost: plain jobs in each of the three statuses.
func waiting() Job {
	return Job{ID: 7, Name: "n", Rule: minutely, Payload: "p", Status: 1, Due: 61, Tries: 2}
}

func held() Job {
	return Job{ID: 7, Name: "n", Rule: minutely, Payload: "p", Status: 2, Tries: 2, Worker: 5, Token: 9, Until: 100}
}

func lost() Job {
	return Job{ID: 7, Name: "n", Payload: "p", Status: 3, Due: 61, Tries: 2}
}

// ruleless: a job without its rule.
func ruleless(j Job) Job {
	j.Rule = ""
	return j
}

// tried: a job that failed so often.
func tried(j Job, tries int) Job {
	j.Tries = tries
	return j
}

// allowed tells by the chapter's words whether a job may be.
func allowed(j Job) bool {
	if j.ID <= 0 || j.ID > two40 || len(j.Name) > 32 || len(j.Payload) > 200 || j.Due < 0 || j.Due > year3000 || j.Tries < 0 || j.Tries > 16 {
		return false
	}
	if j.Rule != "" {
		if _, e := cron.Parse(j.Rule); e != api.OK || len(j.Rule) > 200 || j.Status == 3 {
			return false
		}
	}
	if j.Status == 2 {
		return j.Due == 0 && j.Worker > 0 && j.Worker <= two31 && j.Token > 0 && j.Token <= two40 && j.Until >= 0 && j.Until <= year3000
	}
	return (j.Status == 1 || j.Status == 3) && j.Worker == 0 && j.Token == 0 && j.Until == 0
}

// octets: a number's octets, in as many as are asked for: the count's ones ahead of its bits.
func octets(n uint64, k int) string {
	if k == 9 {
		return "\xff" + string(binary.BigEndian.AppendUint64(nil, n))
	}
	marked := n | (1<<(k-1)-1)<<(8*k-k+1)
	return string(binary.BigEndian.AppendUint64(nil, marked)[8-k:])
}

// fewest: in how many octets a number is written.
func fewest(n uint64) int {
	k := 1
	for k < 9 && bits.Len64(n) > 7*k {
		k++
	}
	return k
}

// counted: a number's octets, as few as will do.
func counted(n uint64) string {
	return octets(n, fewest(n))
}

// part is a piece of a job's octets: a number, or a text and its length.
type part struct {
	text bool
	n    uint64
	s    string
}

// partsOf: the pieces of a job's octets, in their order.
func partsOf(j Job) []part {
	var l []part
	for _, n := range []int{j.ID, j.Status, j.Due, j.Tries, j.Worker, j.Token, j.Until} {
		l = append(l, part{n: uint64(n)})
	}
	for _, s := range []string{j.Name, j.Rule, j.Payload} {
		l = append(l, part{true, uint64(len(s)), s})
	}
	return l
}

// laid: the octets of pieces.
func laid(l []part) string {
	var b strings.Builder
	for _, x := range l {
		b.WriteString(counted(x.n) + x.s)
	}
	return b.String()
}

// written: a job's octets, if it may be or not.
func written(j Job) string {
	return laid(partsOf(j))
}

// modelNumber reads the number ahead of a text.
func modelNumber(s string) (n uint64, rest string, e api.Errno) {
	if s == "" {
		return 0, "", api.ErrShort
	}
	k := 1
	for first := s[0]; k < 9 && first >= 128; k++ {
		first <<= 1
	}
	if len(s) < k {
		return 0, "", api.ErrShort
	}
	for i := range k {
		x := uint64(s[i])
		if i == 0 {
			x %= 1 << max(8-k, 0)
		}
		n = n*256 + x
	}
	if fewest(n) != k {
		return 0, "", api.ErrRange
	}
	if n > two40 {
		return 0, "", api.ErrRange
	}
	return n, s[k:], api.OK
}

// modelText reads the text ahead of a text.
func modelText(s string) (text, rest string, e api.Errno) {
	n, s, e := modelNumber(s)
	switch {
	case e != api.OK:
		return "", "", e
	case n > 256:
		return "", "", api.ErrLong
	case n > uint64(len(s)):
		return "", "", api.ErrShort
	}
	return s[:n], s[n:], api.OK
}

// modelDecode reads a job piece by piece.
func modelDecode(s string) (Job, api.Errno) {
	var j Job
	for _, to := range []*int{&j.ID, &j.Status, &j.Due, &j.Tries, &j.Worker, &j.Token, &j.Until} {
		n, rest, e := modelNumber(s)
		if e != api.OK {
			return Job{}, e
		}
		*to, s = int(n), rest
	}
	for _, to := range []*string{&j.Name, &j.Rule, &j.Payload} {
		text, rest, e := modelText(s)
		if e != api.OK {
			return Job{}, e
		}
		*to, s = text, rest
	}
	if s != "" {
		return Job{}, api.ErrTail
	}
	if !allowed(j) {
		return Job{}, api.ErrState
	}
	return j, api.OK
}

// modelLease is P19.2's Lease, word by word.
func modelLease(j Job, worker, token, until int) (Job, api.Errno) {
	switch {
	case !allowed(j):
		return Job{}, api.ErrState
	case j.Status != 1:
		return Job{}, api.ErrOrder
	case worker < 1, worker > two31, token < 1, token > two40, until < 0, until > year3000:
		return Job{}, api.ErrRange
	}
	return Job{ID: j.ID, Name: j.Name, Rule: j.Rule, Payload: j.Payload, Status: 2, Tries: j.Tries, Worker: worker, Token: token, Until: until}, api.OK
}

// modelNext: when a rule comes above now, if there is one, and it does.
func modelNext(rule string, now int) (int, bool) {
	r, e := cron.Parse(rule)
	if e != api.OK {
		return 0, false
	}
	t, ok, _ := cron.Next(r, now)
	return t, ok
}

// modelFail is P19.2's Fail, word by word.
func modelFail(j Job, l backoff.Limits, now int) (Job, api.Errno) {
	switch {
	case !allowed(j):
		return Job{}, api.ErrState
	case backoff.Check(l) != api.OK:
		return Job{}, api.ErrRange
	case j.Status != 2:
		return Job{}, api.ErrOrder
	case now < 0, now >= year3000:
		return Job{}, api.ErrRange
	}
	bare := Job{ID: j.ID, Name: j.Name, Payload: j.Payload, Tries: j.Tries + 1}
	if j.Tries == 16 {
		bare.Tries = 16
	}
	due, e := backoff.Due(l, now, bare.Tries-1)
	if bare.Tries < l.Tries && e == api.OK {
		bare.Status, bare.Due, bare.Rule = 1, due, j.Rule
		return bare, api.OK
	}
	if t, ok := modelNext(j.Rule, now); ok {
		bare.Status, bare.Due, bare.Rule, bare.Tries = 1, t, j.Rule, 0
		return bare, api.OK
	}
	bare.Status, bare.Due = 3, now
	return bare, api.OK
}

// modelFinish is P19.2's Finish, word by word.
func modelFinish(j Job, now int) (Job, bool, api.Errno) {
	switch {
	case !allowed(j):
		return Job{}, false, api.ErrState
	case j.Status != 2:
		return Job{}, false, api.ErrOrder
	case now < 0, now >= year3000:
		return Job{}, false, api.ErrRange
	}
	t, ok := modelNext(j.Rule, now)
	if !ok {
		return Job{}, false, api.OK
	}
	return Job{ID: j.ID, Name: j.Name, Rule: j.Rule, Payload: j.Payload, Status: 1, Due: t}, true, api.OK
}

// extremes: numbers at the bounds of a job's numbers, and of what int can be.
func extremes() []int {
	var l []int
	for _, n := range []int{0, 2, 16, 128, 200, 1 << 14, two31, 1 << 32, year3000, two40, 1 << 62} {
		l = append(l, n-1, n, n+1, -n)
	}
	return append(l, math.MaxInt-1, math.MaxInt, math.MinInt, math.MinInt+1)
}

// texts: names and payloads of all sizes, with octets of all kinds.
func texts() []string {
	return []string{"", "a", "\x00", "\xff\xfe", "näher", strings.Repeat("k", 31), strings.Repeat("k", 32), strings.Repeat("\x80", 127), strings.Repeat("p", 128), strings.Repeat("p", 199), strings.Repeat("q", 200)}
}

// rules: none, and rules of all sizes that may be.
func rules() []string {
	return []string{"", minutely, leapNoon, noDay, "*/20 1-5/2 * * 7", "59 23 31 12 *", long(127), long(128), long(199), long(200), padded(minutely, 200)}
}

// pick draws one of several.
func pick[T any](dice *rand.Rand, l []T) T {
	return l[dice.Intn(len(l))]
}

// upTo draws a number from 0 to most of any size, its bounds among them often.
func upTo(dice *rand.Rand, most int) int {
	switch dice.Intn(6) {
	case 0:
		return 0
	case 1:
		return most
	}
	return min(dice.Intn(2<<dice.Intn(bits.Len(uint(most)))), most)
}

// drawn: a job that may be, by chance.
func drawn(dice *rand.Rand) Job {
	j := Job{ID: 1 + upTo(dice, two40-1), Payload: pick(dice, texts()), Rule: pick(dice, rules()), Status: 1 + dice.Intn(3), Tries: upTo(dice, 16)}
	j.Name = pick(dice, texts()[:7])
	if j.Status == 3 {
		j.Rule = ""
	}
	if j.Status != 2 {
		j.Due = upTo(dice, year3000)
		return j
	}
	j.Worker, j.Token, j.Until = 1+upTo(dice, two31-1), 1+upTo(dice, two40-1), upTo(dice, year3000)
	return j
}

// someJobs: jobs that may be, plain ones, those at the bounds, and many by chance.
func someJobs() []Job {
	l := []Job{{ID: 1, Status: 1}, {ID: 1, Status: 2, Worker: 1, Token: 1}, {ID: 1, Status: 3}, waiting(), held(), lost(), ruleless(waiting()), ruleless(held())}
	name, payload := strings.Repeat("n", 32), strings.Repeat("p", 200)
	l = append(l,
		Job{ID: two40, Name: name, Rule: long(200), Payload: payload, Status: 1, Due: year3000, Tries: 16},
		Job{ID: two40, Name: name, Rule: long(200), Payload: payload, Status: 2, Tries: 16, Worker: two31, Token: two40, Until: year3000},
		Job{ID: two40, Name: name, Payload: payload, Status: 3, Due: year3000, Tries: 16},
	)
	dice := rand.New(rand.NewSource(19))
	for range 1500 {
		l = append(l, drawn(dice))
	}
	return l
}

// wrongJobs: jobs of which one field, or more, may not be.
func wrongJobs() []Job {
	l := []Job{{}, {ID: 1}, {Status: 1}}
	for _, j := range []Job{waiting(), held(), lost(), ruleless(held())} {
		for _, n := range extremes() {
			for _, to := range []*int{&j.ID, &j.Status, &j.Due, &j.Tries, &j.Worker, &j.Token, &j.Until} {
				was := *to
				*to = n
				l = append(l, j)
				*to = was
			}
		}
		for _, s := range []string{"x", "* * * *", " ", strings.Repeat("k", 33), strings.Repeat("k", 201), long(201), padded(minutely, 201), long(400), long(401)} {
			for _, to := range []*string{&j.Name, &j.Rule, &j.Payload} {
				was := *to
				*to = s
				l = append(l, j)
				*to = was
			}
		}
	}
	var wrong []Job
	for _, j := range l {
		if !allowed(j) {
			wrong = append(wrong, j)
		}
	}
	return wrong
}

// follows fails unless a call answered the job that is wanted, and no error.
func follows(t *testing.T, what string, got Job, e api.Errno, want Job) {
	t.Helper()
	if got != want || e != api.OK {
		t.Errorf("%s: %+v, error %d; want %+v", what, got, e, want)
	}
}

// refused fails unless a call answered the error and no job.
func refused(t *testing.T, what string, got Job, e, want api.Errno) {
	t.Helper()
	if got != (Job{}) || e != want {
		t.Errorf("%s: %+v, error %d; want none, error %d", what, got, e, want)
	}
}
