package backoff

import (
	"math"
	"math/rand"
	"slices"

	"tickler/api"
)

// allowed tells by the chapter's words whether limits may be.
func allowed(l Limits) bool {
	switch {
	case l.Base < 1, l.Base > 1048576:
		return false
	case l.Cap < l.Base, l.Cap > 1073741824:
		return false
	}
	return l.Tries > 0 && l.Tries < 17
}

// waits is the lesser of Cap and Base times 2^k, as numbers that know no bound: for a great k an endless one is held against the Cap.
func waits(l Limits, k int) int {
	k = min(k, 5000)
	return int(math.Min(math.Ldexp(float64(l.Base), k), float64(l.Cap)))
}

// extremes: numbers of all sizes, those at the bounds of the limits' numbers and of what int can be.
func extremes() []int {
	var l []int
	for _, n := range []int{0, 16, 32, 64, 1 << 20, 1 << 30, 1 << 31, 1 << 32, api.MaxTime, 1 << 62} {
		l = append(l, n-1, n, n+1, -n)
	}
	return append(l, math.MaxInt-1, math.MaxInt, math.MinInt, math.MinInt+1)
}

// someLimits: limits that may be, the least and the greatest among them, and many by chance.
func someLimits() []Limits {
	l := []Limits{
		{1, 1, 1}, {1, 1, 16}, {1, 1 << 30, 1}, {1, 1 << 30, 16}, {1 << 20, 1 << 20, 1}, {1 << 20, 1 << 20, 16}, {1 << 20, 1 << 30, 16},
		{3, 20, 6}, {3, 3, 5}, {3, 4, 5}, {3, 5, 5}, {3, 6, 5}, {3, 7, 5}, {1, 2, 2}, {1, 3, 3}, {1, 16384, 16}, {1, 16385, 16}, {1, 1 << 15, 16},
		{1<<20 - 1, 1 << 30, 12}, {1<<20 - 1, 1<<30 - 1, 13}, {7, 7*1024 - 1, 16}, {7, 7 * 1024, 16}, {7, 7*1024 + 1, 16},
	}
	r := rand.New(rand.NewSource(18))
	for range 3000 {
		base := 1 + r.Intn(1<<r.Intn(21))
		longest := min(base+r.Intn(1<<r.Intn(31)), 1<<30)
		l = append(l, Limits{base, longest, 1 + r.Intn(16)})
	}
	return l
}

// wrongLimits: limits of which one number, or more, may not be.
func wrongLimits() []Limits {
	var l []Limits
	for _, x := range extremes() {
		for _, y := range extremes() {
			l = append(l, Limits{x, y, 5}, Limits{x, 1 << 20, y}, Limits{1, x, y})
		}
	}
	return slices.DeleteFunc(l, allowed)
}

// somePlaces: which failures are asked about: all up to those behind which every number has left int, then far ones.
func somePlaces() []int {
	var l []int
	for k := range 70 {
		l = append(l, k)
	}
	return append(l, 127, 128, 1000, 1<<20, 1<<31-1, 1<<31, 1<<32, 1<<62, math.MaxInt-1, math.MaxInt)
}
