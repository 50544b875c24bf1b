package backoff

import (
	"math"
	"testing"

	"tickler/api"
)

// P18.1: Check

func TestCheckAtTheBounds(t *testing.T) {
	for _, c := range []struct {
		l    Limits
		want api.Errno
	}{
		{Limits{3, 20, 6}, api.OK},
		{Limits{0, 20, 6}, api.ErrRange},
		{Limits{1, 20, 6}, api.OK},
		{Limits{1 << 20, 1 << 30, 6}, api.OK},
		{Limits{1<<20 + 1, 1 << 30, 6}, api.ErrRange},
		{Limits{20, 19, 6}, api.ErrRange},
		{Limits{20, 20, 6}, api.OK},
		{Limits{20, 21, 6}, api.OK},
		{Limits{1 << 20, 1<<20 - 1, 6}, api.ErrRange},
		{Limits{1 << 20, 1 << 20, 6}, api.OK},
		{Limits{1, 0, 6}, api.ErrRange},
		{Limits{1, 1, 6}, api.OK},
		{Limits{3, 1<<30 - 1, 6}, api.OK},
		{Limits{3, 1 << 30, 6}, api.OK},
		{Limits{3, 1<<30 + 1, 6}, api.ErrRange},
		{Limits{3, 20, 0}, api.ErrRange},
		{Limits{3, 20, 1}, api.OK},
		{Limits{3, 20, 16}, api.OK},
		{Limits{3, 20, 17}, api.ErrRange},
		{Limits{}, api.ErrRange},
		{Limits{-3, 20, 6}, api.ErrRange},
		{Limits{-20, -3, 6}, api.ErrRange},
		{Limits{3, -20, 6}, api.ErrRange},
		{Limits{3, 20, -1}, api.ErrRange},
		{Limits{math.MinInt, 20, 6}, api.ErrRange},
		{Limits{math.MaxInt, math.MaxInt, 6}, api.ErrRange},
		{Limits{math.MaxInt, 20, 6}, api.ErrRange},
		{Limits{3, math.MinInt, 6}, api.ErrRange},
		{Limits{3, math.MaxInt, 6}, api.ErrRange},
		{Limits{3, 20, math.MinInt}, api.ErrRange},
		{Limits{3, 20, math.MaxInt}, api.ErrRange},
	} {
		if e := Check(c.l); e != c.want {
			t.Errorf("P18.1: Check(%v): error %d, want %d", c.l, e, c.want)
		}
	}
}

func TestCheckAsTheModelTells(t *testing.T) {
	for _, l := range someLimits() {
		if e := Check(l); e != api.OK || !allowed(l) {
			t.Errorf("P18.1: Check(%v): error %d", l, e)
		}
	}
	for _, l := range wrongLimits() {
		if e := Check(l); e != api.ErrRange {
			t.Errorf("P18.1: Check(%v): error %d", l, e)
		}
	}
}

// P18.1: Delay

func TestDelaysOfTheExample(t *testing.T) {
	for k, want := range []int{3, 6, 12, 20, 20} {
		if n, e := Delay(Limits{3, 20, 6}, k); n != want || e != api.OK {
			t.Errorf("P18.1: Delay %d: %d, error %d, want %d", k, n, e, want)
		}
	}
}

func TestDelayAroundItsCap(t *testing.T) {
	for _, c := range []struct {
		l       Limits
		k, want int
	}{
		{Limits{1, 1 << 30, 1}, 0, 1},
		{Limits{1, 1 << 30, 1}, 1, 2},
		{Limits{1, 1 << 30, 1}, 28, 1 << 28},
		{Limits{1, 1 << 30, 1}, 29, 1 << 29},
		{Limits{1, 1 << 30, 1}, 30, 1 << 30},
		{Limits{1, 1 << 30, 1}, 31, 1 << 30},
		{Limits{1, 1<<30 - 1, 1}, 29, 1 << 29},
		{Limits{1, 1<<30 - 1, 1}, 30, 1<<30 - 1},
		{Limits{1 << 20, 1 << 30, 2}, 9, 1 << 29},
		{Limits{1 << 20, 1 << 30, 2}, 10, 1 << 30},
		{Limits{1 << 20, 1 << 30, 2}, 11, 1 << 30},
		{Limits{5, 5, 3}, 0, 5},
		{Limits{5, 5, 3}, 1, 5},
		{Limits{5, 5, 3}, math.MaxInt, 5},
		{Limits{5, 9, 3}, 1, 9},
		{Limits{5, 10, 3}, 1, 10},
		{Limits{5, 11, 3}, 1, 10},
		{Limits{5, 11, 3}, 2, 11},
		{Limits{3, 20, 6}, 62, 20},
		{Limits{3, 20, 6}, 63, 20},
		{Limits{3, 20, 6}, 64, 20},
		{Limits{3, 20, 6}, 65, 20},
		{Limits{1 << 20, 1 << 30, 16}, 44, 1 << 30},
		{Limits{1 << 20, 1 << 30, 16}, math.MaxInt, 1 << 30},
	} {
		if n, e := Delay(c.l, c.k); n != c.want || e != api.OK {
			t.Errorf("P18.1: Delay(%v, %d): %d, error %d, want %d", c.l, c.k, n, e, c.want)
		}
	}
}

func TestDelayAsTheModelTells(t *testing.T) {
	for _, l := range someLimits() {
		for _, k := range somePlaces() {
			if n, e := Delay(l, k); n != waits(l, k) || e != api.OK {
				t.Errorf("P18.1: Delay(%v, %d): %d, error %d, want %d", l, k, n, e, waits(l, k))
			}
		}
	}
}

func TestDelayRefuses(t *testing.T) {
	for _, k := range []int{-1, -2, -64, math.MinInt + 1, math.MinInt} {
		if n, e := Delay(Limits{3, 20, 6}, k); n != 0 || e != api.ErrRange {
			t.Errorf("P18.1: Delay at %d: %d, error %d", k, n, e)
		}
	}
	for _, l := range wrongLimits() {
		for _, k := range []int{-1, 0, 1, 64, math.MaxInt} {
			if n, e := Delay(l, k); n != 0 || e != api.ErrRange {
				t.Errorf("P18.1: Delay(%v, %d): %d, error %d", l, k, n, e)
			}
		}
	}
}

// P18.1: Due

func TestDueAtTheBounds(t *testing.T) {
	const last = api.MaxTime - 1
	for _, c := range []struct {
		now, k, want int
		e            api.Errno
	}{
		{-1, 0, 0, api.ErrRange},
		{0, 0, 3, api.OK},
		{1, 0, 4, api.OK},
		{0, 3, 20, api.OK},
		{1767225600, 2, 1767225612, api.OK},
		{last - 3, 0, last, api.OK},
		{last - 2, 0, 0, api.ErrRange},
		{last - 6, 1, last, api.OK},
		{last - 5, 1, 0, api.ErrRange},
		{last - 20, math.MaxInt, last, api.OK},
		{last - 19, math.MaxInt, 0, api.ErrRange},
		{last, 0, 0, api.ErrRange},
		{api.MaxTime, 0, 0, api.ErrRange},
		{math.MaxInt - 3, 0, 0, api.ErrRange},
		{math.MaxInt - 2, 0, 0, api.ErrRange},
		{math.MaxInt, 0, 0, api.ErrRange},
		{-3, 0, 0, api.ErrRange},
		{-20, 9, 0, api.ErrRange},
		{math.MinInt, 0, 0, api.ErrRange},
		{0, -1, 0, api.ErrRange},
		{-1, -1, 0, api.ErrRange},
		{math.MaxInt, math.MinInt, 0, api.ErrRange},
	} {
		if n, e := Due(Limits{3, 20, 6}, c.now, c.k); n != c.want || e != c.e {
			t.Errorf("P18.1: Due at %d, %d: %d, error %d, want %d, error %d", c.now, c.k, n, e, c.want, c.e)
		}
	}
}

func TestDueIsNowAndTheDelay(t *testing.T) {
	for _, l := range someLimits() {
		for _, k := range []int{0, 1, 2, 5, 10, 29, 30, 31, 64, math.MaxInt} {
			wait := waits(l, k)
			for _, now := range []int{0, 1, 951782400, api.MaxTime - 1 - wait} {
				if n, e := Due(l, now, k); n != now+wait || e != api.OK {
					t.Errorf("P18.1: Due(%v, %d, %d): %d, error %d, want %d", l, now, k, n, e, now+wait)
				}
			}
			for _, now := range []int{-1, -wait, api.MaxTime - wait, api.MaxTime, math.MaxInt - wait + 1, math.MaxInt} {
				if n, e := Due(l, now, k); n != 0 || e != api.ErrRange {
					t.Errorf("P18.1: Due(%v, %d, %d): %d, error %d", l, now, k, n, e)
				}
			}
		}
	}
}

func TestDueRefusesLimits(t *testing.T) {
	for _, l := range wrongLimits() {
		for _, now := range []int{-1, 0, 1000, api.MaxTime, math.MaxInt} {
			for _, k := range []int{-1, 0, math.MaxInt} {
				if n, e := Due(l, now, k); n != 0 || e != api.ErrRange {
					t.Errorf("P18.1: Due(%v, %d, %d): %d, error %d", l, now, k, n, e)
				}
			}
		}
	}
}

// P18.1: Total

func TestTotalOfKnownLimits(t *testing.T) {
	for _, c := range []struct {
		l    Limits
		want int
	}{
		{Limits{3, 20, 1}, 0},
		{Limits{3, 20, 2}, 3},
		{Limits{3, 20, 3}, 9},
		{Limits{3, 20, 4}, 21},
		{Limits{3, 20, 5}, 41},
		{Limits{3, 20, 6}, 61},
		{Limits{5, 5, 1}, 0},
		{Limits{5, 5, 2}, 5},
		{Limits{5, 5, 16}, 75},
		{Limits{1, 1 << 30, 16}, 1<<15 - 1},
		{Limits{1, 1 << 14, 16}, 1<<15 - 1},
		{Limits{1, 1<<14 - 1, 16}, 1<<15 - 2},
		{Limits{1 << 20, 1 << 30, 16}, 1<<30 - 1<<20 + 5<<30},
		{Limits{1 << 20, 1 << 20, 16}, 15 << 20},
	} {
		if n, e := Total(c.l); n != c.want || e != api.OK {
			t.Errorf("P18.1: Total(%v): %d, error %d, want %d", c.l, n, e, c.want)
		}
	}
}

func TestTotalIsTheSumOfTheDelays(t *testing.T) {
	for _, l := range someLimits() {
		byDelay, byModel := 0, 0
		for k := 0; k <= l.Tries-2; k++ {
			n, _ := Delay(l, k)
			byDelay += n
			byModel += waits(l, k)
		}
		if n, e := Total(l); n != byDelay || n != byModel || e != api.OK {
			t.Errorf("P18.1: Total(%v): %d, error %d; by Delay %d, by the model %d", l, n, e, byDelay, byModel)
		}
	}
	for _, l := range wrongLimits() {
		if n, e := Total(l); n != 0 || e != api.ErrRange {
			t.Errorf("P18.1: Total(%v): %d, error %d", l, n, e)
		}
	}
}
