package civil

import (
	"math"
	"testing"
	"time"

	"tickler/api"
)

// P16.1: Leap

func TestLeapByHand(t *testing.T) {
	for _, c := range []struct {
		year int
		want bool
	}{
		{1970, false}, {1971, false}, {1972, true}, {1973, false}, {1974, false}, {1976, true},
		{1600, true}, {1700, false}, {1800, false}, {1900, false}, {2000, true}, {2100, false}, {2200, false}, {2300, false}, {2400, true},
		{2900, false}, {2996, true}, {2999, false}, {3000, false}, {3200, true},
		{0, true}, {1, false}, {2, false}, {3, false}, {4, true}, {100, false}, {200, false}, {300, false}, {400, true},
		{-1, false}, {-2, false}, {-3, false}, {-4, true}, {-5, false}, {-8, true}, {-96, true}, {-100, false}, {-104, true}, {-200, false}, {-300, false}, {-400, true}, {-401, false}, {-404, true},
		{math.MaxInt, false}, {math.MaxInt - 3, true}, {math.MinInt, true}, {math.MinInt + 1, false}, {math.MinInt + 4, true},
		{100 << 40, true}, {100<<40 + 100, false}, {-100 << 40, true}, {-100<<40 - 100, false},
	} {
		if ok := Leap(c.year); ok != c.want {
			t.Errorf("P16.1: Leap(%d): %t", c.year, ok)
		}
	}
}

func TestLeapOfAnyYear(t *testing.T) {
	for _, middle := range append(extremes(), 0) {
		for d := -5000; d <= 5000; d++ {
			// Beyond an end it goes on at the other one: a year like any other.
			if year := middle + d; Leap(year) != leapByDigits(year) {
				t.Errorf("P16.1: Leap(%d): %t", year, Leap(year))
			}
		}
	}
}

// P16.1: Days

func TestDaysOfTwoYearsByHand(t *testing.T) {
	for _, c := range []struct {
		year int
		want []int
	}{
		{1970, []int{31, 28, 31, 30, 31, 30, 31, 31, 30, 31, 30, 31}},
		{1972, []int{31, 29, 31, 30, 31, 30, 31, 31, 30, 31, 30, 31}},
		{2000, []int{31, 29, 31, 30, 31, 30, 31, 31, 30, 31, 30, 31}},
		{2100, []int{31, 28, 31, 30, 31, 30, 31, 31, 30, 31, 30, 31}},
		{2999, []int{31, 28, 31, 30, 31, 30, 31, 31, 30, 31, 30, 31}},
	} {
		for i, want := range c.want {
			if n, e := Days(c.year, i+1); n != want || e != api.OK {
				t.Errorf("P16.1: Days(%d, %d): %d, error %d; want %d", c.year, i+1, n, e, want)
			}
		}
	}
}

func TestDaysOfAllMonths(t *testing.T) {
	for year := 1970; year <= 2999; year++ {
		for month := 1; month <= 12; month++ {
			if n, e := Days(year, month); n != monthDays(year, month) || e != api.OK {
				t.Errorf("P16.1: Days(%d, %d): %d, error %d; want %d", year, month, n, e, monthDays(year, month))
			}
		}
	}
}

func TestDaysRefuses(t *testing.T) {
	wrongYears := append(extremes(), -1, 0, 1, 70, 1600, 1968, 1969, 3000, 3001, 3004)
	wrongMonths := append(extremes(), -12, -2, -1, 0, 13, 14, 24, 1<<32+1)
	refused := func(year, month int) {
		if n, e := Days(year, month); n != 0 || e != api.ErrRange {
			t.Errorf("P16.1: Days(%d, %d): %d, error %d; want 0, error %d", year, month, n, e, api.ErrRange)
		}
	}
	for _, year := range wrongYears {
		for month := 1; month <= 12; month++ {
			refused(year, month)
		}
		for _, month := range wrongMonths {
			refused(year, month)
		}
	}
	for _, month := range wrongMonths {
		for _, year := range []int{1970, 1972, 2000, 2100, 2999} {
			refused(year, month)
		}
	}
}

// P16.1: Day

func TestDayByHand(t *testing.T) {
	for _, c := range []struct{ year, month, day, want int }{
		{1970, 1, 1, 0}, {1970, 1, 2, 1}, {1970, 1, 31, 30}, {1970, 2, 1, 31}, {1970, 2, 28, 58}, {1970, 3, 1, 59}, {1970, 12, 31, 364},
		{1971, 1, 1, 365}, {1972, 1, 1, 730}, {1972, 2, 28, 788}, {1972, 2, 29, 789}, {1972, 3, 1, 790}, {1972, 12, 31, 1095}, {1973, 1, 1, 1096},
		{2000, 1, 1, 10957}, {2000, 2, 29, 11016}, {2000, 3, 1, 11017},
		{2999, 12, 31, 376199}, {2999, 1, 1, 375835},
	} {
		if n, e := Day(c.year, c.month, c.day); n != c.want || e != api.OK {
			t.Errorf("P16.1: Day(%d, %d, %d): %d, error %d; want %d", c.year, c.month, c.day, n, e, c.want)
		}
	}
}

func TestDayOfEachDate(t *testing.T) {
	all := calendar()
	if len(all) != 376200 {
		t.Fatalf("the count finds %d days", len(all))
	}
	for i, d := range all {
		if n, e := Day(d.year, d.month, d.day); n != i || e != api.OK {
			t.Fatalf("P16.1: Day(%d, %d, %d): %d, error %d; want %d", d.year, d.month, d.day, n, e, i)
		}
	}
}

func TestDayAsTheLibraryHasIt(t *testing.T) {
	for year := 1970; year <= 2999; year++ {
		for month := 1; month <= 12; month++ {
			want := int(time.Date(year, time.Month(month), 17, 0, 0, 0, 0, time.UTC).Unix() / 86400)
			if n, e := Day(year, month, 17); n != want || e != api.OK {
				t.Errorf("P16.1: Day(%d, %d, 17): %d, error %d; want %d", year, month, n, e, want)
			}
		}
	}
}

// noDay fails if a date is told to be one.
func noDay(t *testing.T, year, month, day int) {
	t.Helper()
	if n, e := Day(year, month, day); n != 0 || e != api.ErrRange {
		t.Errorf("P16.1: Day(%d, %d, %d): %d, error %d; want 0, error %d", year, month, day, n, e, api.ErrRange)
	}
}

func TestDaysThatNoMonthHas(t *testing.T) {
	for year := 1970; year <= 2999; year++ {
		for month := 1; month <= 12; month++ {
			last := monthDays(year, month)
			for _, day := range append(extremes(), -last, -1, 0, last+1, last+2, 32, 33, 1<<32+1) {
				noDay(t, year, month, day)
			}
		}
	}
}

func TestDayOfFebruary29(t *testing.T) {
	for _, year := range []int{1972, 1996, 2000, 2004, 2096, 2104, 2400, 2800, 2996} {
		if n, e := Day(year, 2, 29); n == 0 || e != api.OK {
			t.Errorf("P16.1: Day(%d, 2, 29): %d, error %d", year, n, e)
		}
		noDay(t, year, 2, 30)
	}
	for _, year := range []int{1970, 1971, 1973, 2001, 2002, 2100, 2200, 2300, 2500, 2900, 2998, 2999} {
		noDay(t, year, 2, 29)
	}
}

func TestDayRefusesEachNumberAlone(t *testing.T) {
	for _, year := range append(extremes(), 0, 1969, 3000) {
		noDay(t, year, 1, 1)
		noDay(t, year, 12, 31)
	}
	for _, month := range append(extremes(), -1, 0, 13) {
		noDay(t, 1970, month, 1)
		noDay(t, 2000, month, 29)
		noDay(t, 2999, month, 31)
	}
	for _, day := range append(extremes(), -1, 0, 32) {
		noDay(t, 1970, 1, day)
		noDay(t, 2999, 12, day)
	}
}

func TestDayRefusesNumbersBesideOthers(t *testing.T) {
	years, months, days := append(extremes(), 1969, 3000, 2000), append(extremes(), 0, 13, 1), append(extremes(), 0, 32, 1)
	for _, year := range years {
		for _, month := range months {
			for _, day := range days {
				if year != 2000 || month != 1 || day != 1 {
					noDay(t, year, month, day)
				}
			}
		}
	}
}

// P16.1: Date

func TestDateByHand(t *testing.T) {
	for _, c := range []struct{ n, year, month, day int }{
		{0, 1970, 1, 1}, {30, 1970, 1, 31}, {31, 1970, 2, 1}, {58, 1970, 2, 28}, {59, 1970, 3, 1}, {364, 1970, 12, 31}, {365, 1971, 1, 1}, {366, 1971, 1, 2},
		{789, 1972, 2, 29}, {790, 1972, 3, 1}, {1095, 1972, 12, 31}, {1096, 1973, 1, 1},
		{11016, 2000, 2, 29}, {376198, 2999, 12, 30}, {376199, 2999, 12, 31},
	} {
		if y, m, d, e := Date(c.n); y != c.year || m != c.month || d != c.day || e != api.OK {
			t.Errorf("P16.1: Date(%d): %d, %d, %d, error %d; want %d, %d, %d", c.n, y, m, d, e, c.year, c.month, c.day)
		}
	}
}

func TestDateOfEachDay(t *testing.T) {
	for i, want := range calendar() {
		if y, m, d, e := Date(i); y != want.year || m != want.month || d != want.day || e != api.OK {
			t.Fatalf("P16.1: Date(%d): %d, %d, %d, error %d; want %d, %d, %d", i, y, m, d, e, want.year, want.month, want.day)
		}
	}
}

func TestDateRefuses(t *testing.T) {
	for _, n := range append(extremes(), -365, -2, -1, 376200, 376201, 376565, 1<<32, api.MaxTime) {
		if y, m, d, e := Date(n); y != 0 || m != 0 || d != 0 || e != api.ErrRange {
			t.Errorf("P16.1: Date(%d): %d, %d, %d, error %d; want zeros, error %d", n, y, m, d, e, api.ErrRange)
		}
	}
}
