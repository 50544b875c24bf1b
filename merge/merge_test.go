package merge

import (
	"fmt"
	"math/rand"
	"slices"
	"testing"

	"tickler/api"
)

// merged fails unless Merge answers what the model does, and that is the error that is wanted.
func merged(t *testing.T, what string, runs [][]api.Entry, want api.Errno) {
	t.Helper()
	l, e := Merge(runs)
	all, why := modelMerge(runs)
	if why != want {
		t.Fatalf("the test itself: %s: error %d; want %d", what, why, want)
	}
	if e != want || !slices.Equal(l, all) {
		t.Errorf("P13.1: Merge of %s: %s, error %d; want %s, error %d", what, brief(l), e, brief(all), want)
	}
}

// apiece: n runs of one version each, in whatever order.
func apiece(n int) [][]api.Entry {
	var runs [][]api.Entry
	for i := range n {
		runs = append(runs, []api.Entry{put(fmt.Sprint("key/", i*37%10), i+1)})
	}
	return runs
}

// P13.1: Merge

func TestMergeOfNoVersions(t *testing.T) {
	for what, runs := range map[string][][]api.Entry{
		"nil":               nil,
		"no runs":           {},
		"a nil run":         {nil},
		"an empty run":      {{}},
		"three empty runs":  {nil, {}, nil},
		"64 runs of none":   make([][]api.Entry, 64),
		"64 empty, not nil": slices.Repeat([][]api.Entry{{}}, 64),
	} {
		if l, e := Merge(runs); len(l) != 0 || e != api.OK {
			t.Errorf("P13.1: Merge of %s: %s, error %d", what, brief(l), e)
		}
	}
	merged(t, "one run among empty ones", [][]api.Entry{nil, {}, many(5), {}, nil}, api.OK)
}

func TestMergeByHand(t *testing.T) {
	runs := [][]api.Entry{
		{put("a", 2), put("c", 9), gone("c", 3)},
		{gone("a", 7), holds("b", 1, "")},
		nil,
		{put("a", 5), put("c", 4), put("cc", 1)},
	}
	want := []api.Entry{gone("a", 7), put("a", 5), put("a", 2), holds("b", 1, ""), put("c", 9), put("c", 4), gone("c", 3), put("cc", 1)}
	for _, order := range [][]int{{0, 1, 2, 3}, {3, 2, 1, 0}, {1, 3, 0, 2}, {2, 0, 3, 1}} {
		var turned [][]api.Entry
		for _, i := range order {
			turned = append(turned, runs[i])
		}
		if l, e := Merge(turned); e != api.OK || !slices.Equal(l, want) {
			t.Errorf("P13.1: Merge of the runs %v: %s, error %d; want %s", order, brief(l), e, brief(want))
		}
	}
}

func TestMergeOfOneRun(t *testing.T) {
	for what, l := range lists() {
		if m, e := Merge([][]api.Entry{l}); e != api.OK || !slices.Equal(m, l) {
			t.Errorf("P13.1: Merge of %s alone: %s, error %d", what, brief(m), e)
		}
	}
}

func TestHowManyRuns(t *testing.T) {
	for _, n := range []int{1, 2, 63, 64} {
		merged(t, fmt.Sprint(n, " runs"), apiece(n), api.OK)
	}
	for _, n := range []int{65, 66, 128, 1000} {
		merged(t, fmt.Sprint(n, " runs"), apiece(n), api.ErrCount)
		merged(t, fmt.Sprint(n, " runs without versions"), make([][]api.Entry, n), api.ErrCount)
	}
	merged(t, "64 runs and an empty one", append(apiece(64), nil), api.ErrCount)
	merged(t, "63 runs and an empty one", append(apiece(63), nil), api.OK)
}

func TestHowManyVersions(t *testing.T) {
	r := rand.New(rand.NewSource(132))
	for _, c := range []struct {
		n    int
		want api.Errno
	}{{1<<16 - 1, api.OK}, {1 << 16, api.OK}, {1<<16 + 1, api.ErrCount}, {1<<16 + 64, api.ErrCount}, {90000, api.ErrCount}} {
		l := many(c.n)
		merged(t, fmt.Sprint(c.n, " versions in one run"), [][]api.Entry{l}, c.want)
		merged(t, fmt.Sprint(c.n, " versions in two runs"), [][]api.Entry{l[c.n/2:], l[:c.n/2]}, c.want)
		merged(t, fmt.Sprint(c.n, " versions, one of them in a run of its own"), [][]api.Entry{l[:c.n-1], nil, l[c.n-1:]}, c.want)
		merged(t, fmt.Sprint(c.n, " versions in 64 runs"), dealt(r, l, 64), c.want)
	}
}

func TestMergeOfARunThatMayNotBe(t *testing.T) {
	for what, c := range refused() {
		merged(t, what, [][]api.Entry{c.l}, c.want)
		merged(t, what+", the last", [][]api.Entry{many(3), nil, {put("b", 1)}, c.l}, c.want)
		merged(t, what+", the first", [][]api.Entry{c.l, many(3), {put("b", 1)}}, c.want)
		merged(t, what+", the last of 64", append(apiece(63), c.l), c.want)
		for other, d := range refused() {
			merged(t, what+", ahead of "+other, [][]api.Entry{many(3), c.l, {put("b", 1)}, d.l}, c.want)
		}
	}
}

func TestVersionsInTwoRuns(t *testing.T) {
	same := map[string]api.Entry{"the same": put("m", 5), "with another value": holds("m", 5, "x"), "gone": gone("m", 5)}
	for what, x := range same {
		merged(t, what, [][]api.Entry{{put("m", 5)}, {x}}, api.ErrTwice)
		merged(t, what+", the other way round", [][]api.Entry{{x}, {put("m", 5)}}, api.ErrTwice)
		merged(t, what+", among others", [][]api.Entry{{put("a", 9), put("m", 5), put("m", 2)}, many(9), {put("m", 6), x, put("m", 1)}}, api.ErrTwice)
		merged(t, what+", in the first and the last of 64", slices.Concat([][]api.Entry{{x}}, apiece(62), [][]api.Entry{{put("m", 5)}}), api.ErrTwice)
		merged(t, what+", in one run", [][]api.Entry{{put("m", 5), x}}, api.ErrOrder)
		merged(t, what+", in one run and in another", [][]api.Entry{{x}, {put("m", 5), x}}, api.ErrOrder)
	}
	merged(t, "one Key, other numbers", [][]api.Entry{{put("m", 5)}, {put("m", 6)}, {put("m", 4)}}, api.OK)
	merged(t, "one number, other Keys", [][]api.Entry{{put("m", 5)}, {put("ma", 5)}, {put("l", 5)}, {put("M", 5)}}, api.OK)
	for what, l := range lists() {
		if len(l) > 0 {
			merged(t, what+", twice", [][]api.Entry{l, l}, api.ErrTwice)
		}
	}
}

// A Key and a number that together look like those of another version are still another Key and another number.
func TestKeysThatEndInDigits(t *testing.T) {
	merged(t, "digits", [][]api.Entry{{put("a1", 2)}, {put("a", 12)}, {put("a12", 1)}}, api.OK)
	merged(t, "octets", [][]api.Entry{{put("a\x00", 1)}, {put("a", 1)}, {put("a\x00\x00", 1)}, {put("a\x01", 1)}}, api.OK)
}

func TestWhichErrorOfMergeComesFirst(t *testing.T) {
	m := []api.Entry{put("m", 5)}
	for what, c := range refused() {
		merged(t, what+", in 65 runs", append(make([][]api.Entry, 64), c.l), api.ErrCount)
		merged(t, what+", the first of 65 runs", append([][]api.Entry{c.l}, apiece(64)...), api.ErrCount)
		merged(t, what+", behind a version in two runs", [][]api.Entry{m, m, c.l}, c.want)
		merged(t, what+", ahead of a version in two runs", [][]api.Entry{c.l, m, m}, c.want)
		merged(t, what+", twice", [][]api.Entry{c.l, c.l}, c.want)
		merged(t, what+", twice, behind a version in two runs", [][]api.Entry{m, m, c.l, c.l}, c.want)
	}
	long := many(1 << 16)
	for what, runs := range map[string][][]api.Entry{
		"65 runs, a version in two":                  append(apiece(64), apiece(1)...),
		"too many versions, one in two runs":         {long, long[:1]},
		"too many versions, one nothing at all":      {{{}}, long},
		"too many versions, and out of order":        {slices.Concat(long, long[:1])},
		"too many versions in a run, no other of it": {nil, make([]api.Entry, 1<<16+1)},
	} {
		merged(t, what, runs, api.ErrCount)
	}
	merged(t, "as many as may be, the last nothing at all", [][]api.Entry{with(long, 1<<16-1, api.Entry{})}, api.ErrArg)
	merged(t, "as many as may be, the last in two runs", [][]api.Entry{long[:1<<16-1], long[1<<16-2 : 1<<16-1]}, api.ErrTwice)
}

func TestDrawnRunsAgainstTheModel(t *testing.T) {
	r := rand.New(rand.NewSource(133))
	seen := map[api.Errno]int{}
	for i := range 3000 {
		l := drawn(r)
		runs := dealt(r, l, 1+r.Intn(6))
		if r.Intn(3) == 0 && len(l) > 0 {
			runs = append(runs, []api.Entry{l[r.Intn(len(l))]})
		}
		if r.Intn(5) == 0 {
			run := runs[r.Intn(len(runs))]
			r.Shuffle(len(run), func(i, j int) { run[i], run[j] = run[j], run[i] })
		}
		r.Shuffle(len(runs), func(i, j int) { runs[i], runs[j] = runs[j], runs[i] })
		_, want := modelMerge(runs)
		merged(t, fmt.Sprint("drawn ", i), runs, want)
		seen[want]++
	}
	for _, e := range []api.Errno{api.OK, api.ErrTwice, api.ErrOrder} {
		if seen[e] < 200 {
			t.Errorf("too few runs with error %d were drawn: %v", e, seen)
		}
	}
}

func TestMergedAgain(t *testing.T) {
	r := rand.New(rand.NewSource(134))
	for _, l := range lists() {
		for range 20 {
			runs := dealt(r, l, 1+r.Intn(9))
			half, _ := Merge(runs[:len(runs)/2])
			rest, _ := Merge(runs[len(runs)/2:])
			if m, e := Merge([][]api.Entry{rest, half}); e != api.OK || !slices.Equal(m, l) {
				t.Errorf("P13.1: Merge of what was merged: %s, error %d; want %s", brief(m), e, brief(l))
			}
		}
	}
}
