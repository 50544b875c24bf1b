package civil

import (
	"slices"
	"sync"
	"testing"

	"tickler/api"
)

// P16.3

func TestJoinOfSplitIsTheSecond(t *testing.T) {
	l := someSeconds(50000)
	for day := 0; day < 376200; day += 97 {
		for _, s := range secondsOfDays() {
			l = append(l, day*86400+s)
		}
	}
	for _, s := range l {
		m, e := Split(s)
		n, why := Join(m)
		if e != api.OK || n != s || why != api.OK {
			t.Errorf("P16.3: Split(%d): %v, error %d; Join of it: %d, error %d", s, m, e, n, why)
		}
	}
}

func TestSplitOfJoinIsTheMoment(t *testing.T) {
	for i, d := range calendar() {
		m := d.moment((i * 104729) % 86400)
		n, e := Join(m)
		back, why := Split(n)
		if e != api.OK || back != m || why != api.OK {
			t.Fatalf("P16.3: Join(%v): %d, error %d; Split of it: %v, error %d", m, n, e, back, why)
		}
	}
}

func TestDateOfDayIsTheDate(t *testing.T) {
	for year := 1970; year <= 2999; year++ {
		for month := 1; month <= 12; month++ {
			for day := 1; day <= monthDays(year, month); day++ {
				n, e := Day(year, month, day)
				y, m, d, why := Date(n)
				if e != api.OK || y != year || m != month || d != day || why != api.OK {
					t.Fatalf("P16.3: Day(%d, %d, %d): %d, error %d; Date of it: %d, %d, %d, error %d", year, month, day, n, e, y, m, d, why)
				}
			}
		}
	}
}

func TestDayOfDateIsTheDay(t *testing.T) {
	for day := range 376200 {
		y, m, d, e := Date(day)
		n, why := Day(y, m, d)
		if e != api.OK || n != day || why != api.OK {
			t.Fatalf("P16.3: Date(%d): %d, %d, %d, error %d; Day of it: %d, error %d", day, y, m, d, e, n, why)
		}
	}
}

// P16.4

func TestTheNextDaysWeekdayIsTheNext(t *testing.T) {
	was := 3
	for day := range 376200 {
		first, e := Split(day * 86400)
		last, why := Split(day*86400 + 86399)
		if want := (was + 1) % 7; first.Weekday != want || last.Weekday != want || e != api.OK || why != api.OK {
			t.Fatalf("P16.4: day %d, behind weekday %d: %v, %v, errors %d, %d", day, was, first, last, e, why)
		}
		was = first.Weekday
	}
}

// P16.2 and P5 of DOC.md

func TestAnEarlierSecondsTextComesFirst(t *testing.T) {
	l := someSeconds(50000)
	for _, c := range knownMoments() {
		for d := -2; d <= 2; d++ {
			l = append(l, min(max(c.t+d, 0), api.MaxTime-1))
		}
	}
	slices.Sort(l)
	l = slices.Compact(l)
	was := ""
	for _, s := range l {
		text, e := Text(s)
		if text <= was || e != api.OK {
			t.Errorf("P16.2: Text(%d): %q, error %d, behind %q", s, text, e, was)
		}
		was = text
	}
}

// P16.5: P2 of DOC.md, and P1, P3 and P4 of it

// answers are what all calls answer of a moment's numbers and of a second.
type answers struct {
	leap           bool
	days, day      int
	year, month, d int
	split          Moment
	join           int
	text           string
	errs           [6]api.Errno
}

// ask asks all calls.
func ask(m Moment, t int) answers {
	var a answers
	a.leap = Leap(m.Year)
	a.days, a.errs[0] = Days(m.Year, m.Month)
	a.day, a.errs[1] = Day(m.Year, m.Month, m.Day)
	a.year, a.month, a.d, a.errs[2] = Date(t)
	a.split, a.errs[3] = Split(t)
	a.join, a.errs[4] = Join(m)
	a.text, a.errs[5] = Text(t)
	return a
}

// question is what all calls are asked.
type question struct {
	m Moment
	t int
}

// questions: moments and seconds that may be, and moments of which some numbers may not, with seconds of any size.
func questions() []question {
	var l []question
	for _, s := range someSeconds(2000) {
		m, _ := Split(s)
		l = append(l, question{m, s}, question{m, s / 86400})
	}
	for i, x := range extremes() {
		for field := range 7 {
			for other := range 7 {
				m := with(lastMoment(), field, x)
				l = append(l, question{with(m, other, extremes()[(i*5+other)%len(extremes())]), x}, question{m, -x})
			}
		}
	}
	return l
}

func TestAnswersHangOnArgumentsAlone(t *testing.T) {
	l := questions()
	var first []answers
	for _, q := range l {
		first = append(first, ask(q.m, q.t))
	}
	for i := len(l) - 1; i >= 0; i-- {
		if again := ask(l[i].m, l[i].t); again != first[i] {
			t.Errorf("P16.5: %v: %v, asked again %v", l[i], first[i], again)
		}
	}
	var all sync.WaitGroup
	for worker := range 4 {
		all.Go(func() {
			for i := worker; i < len(l); i += 2 {
				if again := ask(l[i].m, l[i].t); again != first[i] {
					t.Errorf("P16.5: %v: %v, asked beside others %v", l[i], first[i], again)
				}
			}
		})
	}
	all.Wait()
}

func TestATextIsItsHolders(t *testing.T) {
	var texts, want []string
	for _, c := range knownMoments() {
		for range 3 {
			text, _ := Text(c.t)
			texts, want = append(texts, text), append(want, c.text)
		}
	}
	for _, s := range outside() {
		Text(s)
	}
	if !slices.Equal(texts, want) {
		t.Errorf("P16.5: texts told earlier: %q", texts)
	}
}

func TestBesideAnErrorAllElseIsZero(t *testing.T) {
	for _, q := range questions() {
		a := ask(q.m, q.t)
		zero := []bool{
			a.days == 0, a.day == 0, a.year == 0 && a.month == 0 && a.d == 0,
			a.split == Moment{}, a.join == 0, a.text == "",
		}
		for i, e := range a.errs {
			if e != api.OK && !zero[i] {
				t.Errorf("P16.5: %v: call %d answers beside error %d: %v", q, i, e, a)
			}
		}
	}
}
