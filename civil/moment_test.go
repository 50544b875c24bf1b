package civil

import (
	"testing"
	"time"

	"tickler/api"
)

// knownMoment is a second and its moment, by hand.
type knownMoment struct {
	t    int
	m    Moment
	text string
}

func knownMoments() []knownMoment {
	return []knownMoment{
		{0, firstMoment(), "1970-01-01 00:00:00"},
		{1, Moment{1970, 1, 1, 0, 0, 1, 4}, "1970-01-01 00:00:01"},
		{59, Moment{1970, 1, 1, 0, 0, 59, 4}, "1970-01-01 00:00:59"},
		{60, Moment{1970, 1, 1, 0, 1, 0, 4}, "1970-01-01 00:01:00"},
		{3600, Moment{1970, 1, 1, 1, 0, 0, 4}, "1970-01-01 01:00:00"},
		{86399, Moment{1970, 1, 1, 23, 59, 59, 4}, "1970-01-01 23:59:59"},
		{86400, Moment{1970, 1, 2, 0, 0, 0, 5}, "1970-01-02 00:00:00"},
		{68214896, Moment{1972, 2, 29, 12, 34, 56, 2}, "1972-02-29 12:34:56"},
		{951782400, Moment{2000, 2, 29, 0, 0, 0, 2}, "2000-02-29 00:00:00"},
		{1000000000, Moment{2001, 9, 9, 1, 46, 40, 0}, "2001-09-09 01:46:40"},
		{1794733507, Moment{2026, 11, 15, 9, 5, 7, 0}, "2026-11-15 09:05:07"},
		{1 << 31, Moment{2038, 1, 19, 3, 14, 8, 2}, "2038-01-19 03:14:08"},
		{4107542399, Moment{2100, 2, 28, 23, 59, 59, 0}, "2100-02-28 23:59:59"},
		{4107542400, Moment{2100, 3, 1, 0, 0, 0, 1}, "2100-03-01 00:00:00"},
		{1 << 32, Moment{2106, 2, 7, 6, 28, 16, 0}, "2106-02-07 06:28:16"},
		{32503679999, lastMoment(), "2999-12-31 23:59:59"},
	}
}

// outside: seconds that there are not.
func outside() []int {
	return append(extremes()[:8], -86400, -3600, -2, -1, api.MaxTime, api.MaxTime+1, api.MaxTime+86400, 1<<35, 1<<40, 1<<62)
}

// P16.2: Split

func TestSplitByHand(t *testing.T) {
	for _, c := range knownMoments() {
		if m, e := Split(c.t); m != c.m || e != api.OK {
			t.Errorf("P16.2: Split(%d): %v, error %d; want %v", c.t, m, e, c.m)
		}
	}
}

func TestSplitOfEachDay(t *testing.T) {
	for i, d := range calendar() {
		for _, s := range []int{0, 1, (i * 7919) % 86400, 86399} {
			if m, e := Split(i*86400 + s); m != d.moment(s) || e != api.OK {
				t.Fatalf("P16.2: Split(%d): %v, error %d; want %v", i*86400+s, m, e, d.moment(s))
			}
		}
	}
}

func TestSplitOfEachSecondOfADay(t *testing.T) {
	all := calendar()
	for _, day := range []int{0, 11016, 376199} {
		for s := range 86400 {
			if m, e := Split(day*86400 + s); m != all[day].moment(s) || e != api.OK {
				t.Fatalf("P16.2: Split(%d): %v, error %d; want %v", day*86400+s, m, e, all[day].moment(s))
			}
		}
	}
}

func TestSplitAsTheLibraryHasIt(t *testing.T) {
	for _, s := range someSeconds(20000) {
		u := time.Unix(int64(s), 0).UTC()
		want := Moment{u.Year(), int(u.Month()), u.Day(), u.Hour(), u.Minute(), u.Second(), int(u.Weekday())}
		if m, e := Split(s); m != want || e != api.OK {
			t.Errorf("P16.2: Split(%d): %v, error %d; want %v", s, m, e, want)
		}
	}
}

func TestSplitRefuses(t *testing.T) {
	for _, s := range outside() {
		if m, e := Split(s); m != (Moment{}) || e != api.ErrRange {
			t.Errorf("P16.2: Split(%d): %v, error %d; want zeros, error %d", s, m, e, api.ErrRange)
		}
	}
}

// P16.2: Join

// joins fails if Join of m does not answer n and why.
func joins(t *testing.T, m Moment, n int, why api.Errno) {
	t.Helper()
	if got, e := Join(m); got != n || e != why {
		t.Errorf("P16.2: Join(%v): %d, error %d; want %d, error %d", m, got, e, n, why)
	}
}

// with: m with another number in a field; the fields are counted as Moment has them.
func with(m Moment, field, number int) Moment {
	*[]*int{&m.Year, &m.Month, &m.Day, &m.Hour, &m.Minute, &m.Second, &m.Weekday}[field] = number
	return m
}

// ends: the first and the last number that each field may have, where all fields ahead of it are those of m.
func ends(m Moment) [7][2]int {
	return [7][2]int{{1970, 2999}, {1, 12}, {1, monthDays(m.Year, m.Month)}, {0, 23}, {0, 59}, {0, 59}, {0, 6}}
}

func TestJoinByHand(t *testing.T) {
	for _, c := range knownMoments() {
		joins(t, c.m, c.t, api.OK)
	}
}

func TestJoinOfEachDay(t *testing.T) {
	for i, d := range calendar() {
		s := (i * 7919) % 86400
		if n, e := Join(d.moment(s)); n != i*86400+s || e != api.OK {
			t.Fatalf("P16.2: Join(%v): %d, error %d; want %d", d.moment(s), n, e, i*86400+s)
		}
	}
}

func TestJoinRefusesEachFieldAlone(t *testing.T) {
	for _, c := range knownMoments() {
		for field, bounds := range ends(c.m) {
			why := api.ErrRange
			if field == 6 {
				why = api.ErrArg
			}
			for _, number := range append(extremes(), bounds[0]-1, bounds[0]-2, bounds[1]+1, bounds[1]+2) {
				joins(t, with(c.m, field, number), 0, why)
			}
		}
	}
}

func TestJoinTakesTheEndsOfEachField(t *testing.T) {
	m := Moment{2026, 11, 15, 9, 5, 7, 0}
	const at = 1794733507
	for field, size := range map[int]int{3: 3600, 4: 60, 5: 1} {
		for _, number := range ends(m)[field] {
			old := [7]int{3: 9, 4: 5, 5: 7}[field]
			joins(t, with(m, field, number), at+(number-old)*size, api.OK)
		}
	}
	joins(t, Moment{2026, 11, 1, 9, 5, 7, 0}, at-14*86400, api.OK)
	joins(t, Moment{2026, 11, 30, 9, 5, 7, 1}, at+15*86400, api.OK)
	joins(t, Moment{2026, 1, 15, 9, 5, 7, 4}, at-304*86400, api.OK)
	joins(t, Moment{2026, 12, 15, 9, 5, 7, 2}, at+30*86400, api.OK)
}

func TestJoinRefusesEachOtherWeekday(t *testing.T) {
	all := calendar()
	for i := 0; i < len(all); i += 101 {
		m := all[i].moment(i % 86400)
		for weekday := -8; weekday <= 14; weekday++ {
			if weekday != m.Weekday {
				joins(t, with(m, 6, weekday), 0, api.ErrArg)
			}
		}
	}
}

func TestJoinsErrorsInTheirOrder(t *testing.T) {
	good := Moment{2000, 2, 29, 23, 59, 59, 2}
	// Numbers that are wrong whatever the others are, so that any of them may be wrong together.
	for _, wrong := range [][7]int{
		{1969, 0, 0, -1, -1, -1, 3},
		{3000, 13, 32, 24, 60, 60, 7},
		{2999 + 1<<32, 1<<32 + 2, 1<<32 + 29, 1<<32 + 23, 1<<32 + 59, 1<<32 + 59, 1<<32 + 2},
		{-2000, -2, -29, -23, -59, -59, -5},
	} {
		for set := range 1 << 7 {
			m, n, why := good, 0, api.ErrRange
			for field, number := range wrong {
				if set>>field&1 == 1 {
					m = with(m, field, number)
				}
			}
			switch set {
			case 0:
				n, why = 951868799, api.OK
			case 1 << 6:
				why = api.ErrArg
			}
			joins(t, m, n, why)
		}
	}
}

func TestJoinOfFieldsThatRunOver(t *testing.T) {
	// Each would be a moment of the next minute, hour, day or month, with the weekday of that, or of what it runs over from.
	for weekday := range 7 {
		for _, m := range []Moment{
			{2026, 11, 15, 9, 5, 60, weekday}, {2026, 11, 15, 9, 60, 0, weekday}, {2026, 11, 15, 24, 0, 0, weekday},
			{2026, 11, 31, 0, 0, 0, weekday}, {2026, 13, 1, 0, 0, 0, weekday}, {2100, 2, 29, 0, 0, 0, weekday},
			{2026, 11, 15, 10, -1, 0, weekday}, {2026, 11, 15, 10, 0, -1, weekday}, {2026, 11, 16, -1, 0, 0, weekday},
			{2026, 12, 0, 0, 0, 0, weekday}, {2027, 0, 31, 0, 0, 0, weekday}, {1970, 1, 1, 0, 0, -1, weekday},
			{2999, 12, 31, 23, 59, 60, weekday}, {2999, 12, 31, 24, 0, 0, weekday}, {2999, 12, 32, 0, 0, 0, weekday},
			{3000, 1, 1, 0, 0, 0, weekday}, {1969, 12, 31, 23, 59, 59, weekday},
		} {
			joins(t, m, 0, api.ErrRange)
		}
	}
}

func TestJoinOfNoMoment(t *testing.T) {
	joins(t, Moment{}, 0, api.ErrRange)
}

// P16.2: Text

func TestTextByHand(t *testing.T) {
	for _, c := range knownMoments() {
		if s, e := Text(c.t); s != c.text || e != api.OK {
			t.Errorf("P16.2: Text(%d): %q, error %d; want %q", c.t, s, e, c.text)
		}
	}
}

func TestTextOfManySeconds(t *testing.T) {
	for i, d := range calendar() {
		s := (i * 7919) % 86400
		if text, e := Text(i*86400 + s); text != written(d.moment(s)) || e != api.OK {
			t.Fatalf("P16.2: Text(%d): %q, error %d; want %q", i*86400+s, text, e, written(d.moment(s)))
		}
	}
}

func TestTextOfSecondsAboutTheEndsOfThings(t *testing.T) {
	all := calendar()
	for _, day := range []int{0, 1, 30, 31, 58, 59, 364, 365, 789, 790, 11016, 11017, 376198, 376199} {
		for _, s := range secondsOfDays() {
			if text, e := Text(day*86400 + s); text != written(all[day].moment(s)) || e != api.OK {
				t.Errorf("P16.2: Text(%d): %q, error %d; want %q", day*86400+s, text, e, written(all[day].moment(s)))
			}
		}
	}
}

func TestTextRefuses(t *testing.T) {
	for _, s := range outside() {
		if text, e := Text(s); text != "" || e != api.ErrRange {
			t.Errorf("P16.2: Text(%d): %q, error %d; want none, error %d", s, text, e, api.ErrRange)
		}
	}
}
