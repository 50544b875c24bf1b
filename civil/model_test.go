package civil

import (
	"fmt"
	"math"
	"math/rand"

	"tickler/api"
)

// date is a day as a count day by day finds it.
type date struct{ year, month, day, weekday int }

// leapByDigits tells whether a year is a leap year by its last two digits: where these are 00, by those ahead of them.
func leapByDigits(year int) bool {
	n := uint64(year)
	if year < 0 {
		n = -n
	}
	if n%100 == 0 {
		n /= 100
	}
	return n%4 == 0
}

// monthDays: how many days a month has.
func monthDays(year, month int) int {
	switch month {
	case 2:
		if leapByDigits(year) {
			return 29
		}
		return 28
	case 4, 6, 9, 11:
		return 30
	}
	return 31
}

// after: the date one day later.
func after(d date) date {
	d.weekday = (d.weekday + 1) % 7
	if d.day++; d.day > monthDays(d.year, d.month) {
		d.day = 1
		d.month++
	}
	if d.month > 12 {
		d.month = 1
		d.year++
	}
	return d
}

// calendar: all days, counted one by one from Thursday, 1970-01-01.
func calendar() []date {
	var l []date
	for d := (date{1970, 1, 1, 4}); d.year < 3000; d = after(d) {
		l = append(l, d)
	}
	return l
}

// moment: the moment of a second of a day.
func (d date) moment(second int) Moment {
	return Moment{d.year, d.month, d.day, second / 3600, second / 60 % 60, second % 60, d.weekday}
}

// written: a moment as a text.
func written(m Moment) string {
	return fmt.Sprintf("%04d-%02d-%02d %02d:%02d:%02d", m.Year, m.Month, m.Day, m.Hour, m.Minute, m.Second)
}

// secondsOfDays: seconds of a day that are looked at: its ends, those of an hour and of a minute, one for which no two numbers are one.
func secondsOfDays() []int {
	return []int{0, 1, 59, 60, 61, 3599, 3600, 12*3600 - 1, 12 * 3600, 9*3600 + 5*60 + 7, 86340, 86398, 86399}
}

// someSeconds: seconds of all the time there is, in no order, and both ends.
func someSeconds(n int) []int {
	r := rand.New(rand.NewSource(16))
	l := []int{0, api.MaxTime - 1}
	for range n {
		l = append(l, r.Intn(api.MaxTime))
	}
	return l
}

// extremes: numbers that no field of a moment can be.
func extremes() []int {
	return []int{
		math.MinInt, math.MinInt + 1, -1 << 62, -1 << 33, math.MinInt32, -1<<16 - 1, -3000, -1970,
		2000 + 1<<32, 1<<32 + 1, 1 << 33, math.MaxInt32, 1 << 62, math.MaxInt - 1, math.MaxInt,
	}
}

// firstMoment: the moment of second 0, by hand.
func firstMoment() Moment {
	return Moment{Year: 1970, Month: 1, Day: 1, Weekday: 4}
}

// lastMoment: the moment of the last second, by hand.
func lastMoment() Moment {
	return Moment{2999, 12, 31, 23, 59, 59, 2}
}
