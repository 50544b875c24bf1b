package cron

import (
	"fmt"
	"math"
	"math/rand"
	"regexp"
	"slices"
	"strconv"
	"strings"
	"time"

	"tickler/api"
)

// span is between which numbers a field lies.
type span struct{ low, high int }

// spans: those of the five fields' sets.
func spans() [5]span {
	return [5]span{{0, 59}, {0, 23}, {1, 31}, {1, 12}, {0, 6}}
}

// bitsOf: a set of these numbers.
func bitsOf(l ...int) uint64 {
	var set uint64
	for _, n := range l {
		set |= 1 << n
	}
	return set
}

// from: a set of all numbers from one to another.
func from(low, high int) uint64 {
	var set uint64
	for n := low; n <= high; n++ {
		set += uint64(math.Pow(2, float64(n)))
	}
	return set
}

// every: the rule of "* * * * *".
func every() Rule {
	return Rule{from(0, 59), from(0, 23), from(1, 31), from(1, 12), from(0, 6), true, true}
}

// withSet: a rule with another set as its i-th field, and no mark of it.
func withSet(r Rule, i int, set uint64) Rule {
	switch i {
	case 0:
		r.Minutes = set
	case 1:
		r.Hours = set
	case 2:
		r.Days, r.AnyDay = set, false
	case 3:
		r.Months = set
	case 4:
		r.Weekdays, r.AnyWeekday = set, false
	}
	return r
}

// setAt: the i-th set of a rule.
func setAt(r Rule, i int) uint64 {
	return []uint64{r.Minutes, r.Hours, r.Days, r.Months, r.Weekdays}[i]
}

// itemForm: an item, whatever its numbers are.
var itemForm = regexp.MustCompile(`^(?:(\*)|([0-9]{1,2})(?:-([0-9]{1,2}))?)(?:/([0-9]{1,2}))?$`)

// modelItem: which numbers an item means.
func modelItem(i int, item string) ([]int, bool) {
	p := itemForm.FindStringSubmatch(item)
	if p == nil {
		return nil, false
	}
	var l []int
	low, high := spans()[i].low, spans()[i].high
	if p[1] == "" {
		if i == 4 {
			high = 7
		}
		n, _ := strconv.Atoi(p[2])
		m := n
		if p[3] != "" {
			m, _ = strconv.Atoi(p[3])
		}
		if n < low || m > high || m < n {
			return nil, false
		}
		low, high = n, m
	}
	for n := low; n <= high; n++ {
		l = append(l, n)
	}
	if p[4] == "" {
		return l, true
	}
	step, _ := strconv.Atoi(p[4])
	if step == 0 || p[1] == "" && p[3] == "" {
		return nil, false
	}
	var some []int
	for at := 0; at < len(l); at += step {
		some = append(some, l[at])
	}
	return some, true
}

// modelParse: Parse by the form of the text.
func modelParse(s string) (Rule, api.Errno) {
	if len(s) > 400 {
		return Rule{}, api.ErrLong
	}
	words := slices.DeleteFunc(strings.Split(s, " "), func(w string) bool { return w == "" })
	if len(words) != 5 {
		return Rule{}, api.ErrCount
	}
	r := Rule{}
	for i, word := range words {
		var set uint64
		for _, item := range strings.Split(word, ",") {
			l, ok := modelItem(i, item)
			if !ok {
				return Rule{}, api.ErrField
			}
			for _, n := range l {
				if i == 4 {
					n %= 7
				}
				set |= 1 << n
			}
		}
		r = withSet(r, i, set)
	}
	r.AnyDay, r.AnyWeekday = words[2] == "*", words[4] == "*"
	return r, api.OK
}

// modelCheck: may a rule be, bit by bit?
func modelCheck(r Rule) bool {
	for i, s := range spans() {
		count := 0
		for bit := range 64 {
			if setAt(r, i)&(1<<bit) != 0 {
				if bit < s.low || bit > s.high {
					return false
				}
				count++
			}
		}
		just := i == 2 && r.AnyDay || i == 4 && r.AnyWeekday
		if count == 0 || just && count != s.high-s.low+1 {
			return false
		}
	}
	return true
}

// modelComes: does a rule come at a second, by the library's calendar?
func modelComes(r Rule, t int) bool {
	at := time.Unix(int64(t), 0).UTC()
	is := func(set uint64, n int) bool { return set&(1<<n) != 0 }
	if at.Second() != 0 || !is(r.Minutes, at.Minute()) || !is(r.Hours, at.Hour()) || !is(r.Months, int(at.Month())) {
		return false
	}
	day, weekday := is(r.Days, at.Day()), is(r.Weekdays, int(at.Weekday()))
	switch {
	case r.AnyDay && r.AnyWeekday:
		return true
	case r.AnyDay:
		return weekday
	case r.AnyWeekday:
		return day
	}
	return day || weekday
}

// modelNext: the least second above t at which a rule comes, minute by minute up to an end.
func modelNext(r Rule, t, end int) (int, bool) {
	for n := (t + 60) / 60 * 60; n < end; n += 60 {
		if modelComes(r, n) {
			return n, true
		}
	}
	return 0, false
}

// second: the second of a date and a time of day.
func second(year, month, day, hour, minute, sec int) int {
	return int(time.Date(year, time.Month(month), day, hour, minute, sec, 0, time.UTC).Unix())
}

// whenText: a second as a text for a failing test.
func whenText(t int) string {
	return fmt.Sprint(t, " (", time.Unix(int64(t), 0).UTC().Format("Mon 2006-01-02 15:04:05"), ")")
}

// someSet: a set of a field, of few numbers or of many.
func someSet(rng *rand.Rand, s span) uint64 {
	var set uint64
	for n := 1 + rng.Intn(4); n > 0; n-- {
		set |= 1 << (s.low + rng.Intn(s.high-s.low+1))
	}
	switch rng.Intn(4) {
	case 0:
		return from(s.low, s.high)
	case 1:
		if rest := from(s.low, s.high) &^ set; rest != 0 {
			return rest
		}
	}
	return set
}

// someRules: rules that may be, of all kinds.
func someRules(n int) []Rule {
	rng := rand.New(rand.NewSource(17))
	var l []Rule
	for range n {
		r := Rule{}
		for i, s := range spans() {
			r = withSet(r, i, someSet(rng, s))
		}
		r.AnyDay = r.Days == every().Days && rng.Intn(2) == 0
		r.AnyWeekday = r.Weekdays == every().Weekdays && rng.Intn(2) == 0
		l = append(l, r)
	}
	return l
}

// wrongRules: rules that may not be.
func wrongRules() []Rule {
	l := []Rule{{}, {AnyDay: true, AnyWeekday: true}, {math.MaxUint64, math.MaxUint64, math.MaxUint64, math.MaxUint64, math.MaxUint64, true, true}}
	for i, s := range spans() {
		l = append(l, withSet(every(), i, 0), withSet(every(), i, math.MaxUint64))
		for bit := range 64 {
			if bit < s.low || bit > s.high {
				l = append(l, withSet(every(), i, 1<<bit), withSet(every(), i, setAt(every(), i)|1<<bit))
			}
		}
	}
	return append(l, marked(every(), 2, bitsOf(1)), marked(every(), 4, bitsOf(0)))
}

// marked: a rule with another set of days, said to be any.
func marked(r Rule, i int, set uint64) Rule {
	r = withSet(r, i, set)
	if i == 2 {
		r.AnyDay = true
	} else {
		r.AnyWeekday = true
	}
	return r
}

// farNumbers: numbers that are no second of the calendar, and none that Next takes.
func farNumbers() []int {
	return []int{math.MinInt, math.MinInt + 1, math.MinInt + 60, -1 << 62, -1 << 33, math.MinInt32, -86400, -3600, -61, -60, -59, -3, -2, api.MaxTime, api.MaxTime + 1, api.MaxTime + 59, api.MaxTime + 60, 2 * api.MaxTime, 1 << 62, math.MaxInt - 60, math.MaxInt - 1, math.MaxInt}
}
