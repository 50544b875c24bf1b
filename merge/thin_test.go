package merge

import (
	"fmt"
	"math"
	"math/rand"
	"slices"
	"testing"

	"tickler/api"
)

// thinned fails unless Thin answers what the model does, and that is the error that is wanted.
func thinned(t *testing.T, what string, l []api.Entry, snaps []int, bottom bool, want api.Errno) {
	t.Helper()
	m, e := Thin(l, snaps, bottom)
	stays, why := modelThin(l, snaps, bottom)
	if why != want {
		t.Fatalf("the test itself: %s: error %d; want %d", what, why, want)
	}
	if e != want || !slices.Equal(m, stays) {
		t.Errorf("P13.2: Thin of %s, snaps %v, bottom %t: %s, error %d; want %s, error %d", what, snaps, bottom, brief(m), e, brief(stays), want)
	}
}

// leaves fails unless Thin leaves of the versions of one key those of these numbers, and that many of them at the bottom.
func leaves(t *testing.T, l []api.Entry, snaps []int, seqs []int, atBottom int) {
	t.Helper()
	for _, bottom := range []bool{false, true} {
		want := seqs
		if bottom {
			want = seqs[:atBottom]
		}
		m, e := Thin(l, snaps, bottom)
		var got []int
		for _, x := range m {
			if !slices.Contains(l, x) {
				t.Errorf("P13.2: Thin of %v: %v is none of them", l, x)
			}
			got = append(got, x.Seq)
		}
		if e != api.OK || !slices.Equal(got, want) {
			t.Errorf("P13.2: Thin of %v, snaps %v, bottom %t: %v, error %d; want the numbers %v", l, snaps, bottom, m, e, want)
		}
	}
}

// P13.2: Thin

func TestTheExample(t *testing.T) {
	if m, e := Thin(example(), nil, true); e != api.OK || len(m) != 0 {
		t.Errorf("P13.2: Thin of the example: %v, error %d", m, e)
	}
	leaves(t, example(), nil, []int{3}, 0)
	leaves(t, example(), []int{2}, []int{3, 1}, 2)
}

func TestSnapsOfAKeysVersions(t *testing.T) {
	l := []api.Entry{put("a", 40), put("a", 30), put("a", 20), put("a", 10)}
	for _, c := range []struct {
		snaps []int
		want  []int
	}{
		{nil, []int{40}}, {[]int{}, []int{40}},
		{[]int{0}, []int{40}}, {[]int{9}, []int{40}}, {[]int{1}, []int{40}},
		{[]int{10}, []int{40, 10}}, {[]int{11}, []int{40, 10}}, {[]int{19}, []int{40, 10}},
		{[]int{20}, []int{40, 20}}, {[]int{29}, []int{40, 20}}, {[]int{30}, []int{40, 30}}, {[]int{39}, []int{40, 30}},
		{[]int{40}, []int{40}}, {[]int{41}, []int{40}}, {[]int{1 << 40}, []int{40}},
		{[]int{10, 20}, []int{40, 20, 10}}, {[]int{20, 10}, []int{40, 20, 10}}, {[]int{15, 12, 10}, []int{40, 10}},
		{[]int{39, 0, 10, 39}, []int{40, 30, 10}}, {[]int{10, 10, 10}, []int{40, 10}},
		{[]int{35, 25, 15}, []int{40, 30, 20, 10}}, {[]int{15, 35, 25, 5, 45}, []int{40, 30, 20, 10}},
		{[]int{40, 1 << 40, 0, 0}, []int{40}},
	} {
		leaves(t, l, c.snaps, c.want, len(c.want))
	}
}

func TestVersionsThatSayThatAKeyIsGone(t *testing.T) {
	p, g := put, gone
	for _, c := range []struct {
		l        []api.Entry
		snaps    []int
		want     []int
		atBottom int
	}{
		{[]api.Entry{p("a", 3)}, nil, []int{3}, 1},
		{[]api.Entry{p("a", 3)}, []int{2}, []int{3}, 1},
		{[]api.Entry{g("a", 3)}, nil, []int{3}, 0},
		{[]api.Entry{g("a", 3)}, []int{2}, []int{3}, 0},
		{[]api.Entry{g("a", 3)}, []int{3}, []int{3}, 0},
		{[]api.Entry{p("a", 3), g("a", 1)}, nil, []int{3}, 1},
		{[]api.Entry{p("a", 3), g("a", 1)}, []int{2}, []int{3, 1}, 1},
		{[]api.Entry{g("a", 3), p("a", 1)}, []int{1}, []int{3, 1}, 2},
		{[]api.Entry{g("a", 3), p("a", 1)}, []int{3}, []int{3}, 0},
		{[]api.Entry{g("a", 3), p("a", 1)}, []int{0}, []int{3}, 0},
		{[]api.Entry{g("a", 3), g("a", 1)}, []int{1}, []int{3, 1}, 0},
		// Several behind one another go, one between two values stays.
		{[]api.Entry{p("a", 9), g("a", 7), g("a", 5), g("a", 3)}, []int{7, 5, 3}, []int{9, 7, 5, 3}, 1},
		{[]api.Entry{p("a", 9), g("a", 7), p("a", 5), g("a", 3)}, []int{7, 5, 3}, []int{9, 7, 5, 3}, 3},
		{[]api.Entry{p("a", 9), g("a", 7), p("a", 5), p("a", 3)}, []int{7, 5, 3}, []int{9, 7, 5, 3}, 4},
		{[]api.Entry{g("a", 9), g("a", 7), p("a", 5), g("a", 3), g("a", 1)}, []int{7, 5, 3, 1}, []int{9, 7, 5, 3, 1}, 3},
		{[]api.Entry{g("a", 9), g("a", 7), g("a", 5), g("a", 3)}, []int{7, 5, 3}, []int{9, 7, 5, 3}, 0},
		// What lies below them is not seen, so that they are the last of what stays.
		{[]api.Entry{p("a", 9), g("a", 7), p("a", 5)}, []int{7}, []int{9, 7}, 1},
		{[]api.Entry{p("a", 9), g("a", 7), g("a", 6), p("a", 5)}, []int{8, 6}, []int{9, 7, 6}, 1},
		{[]api.Entry{g("a", 9), p("a", 7), g("a", 6), p("a", 5)}, []int{6}, []int{9, 6}, 0},
		{[]api.Entry{holds("a", 9, ""), g("a", 7)}, []int{7}, []int{9, 7}, 1},
		{[]api.Entry{g("a", 1<<40), holds("a", 1, "")}, []int{1<<40 - 1}, []int{1 << 40, 1}, 2},
		{[]api.Entry{g("a", 1<<40), holds("a", 1, "")}, []int{1 << 40}, []int{1 << 40}, 0},
	} {
		leaves(t, c.l, c.snaps, c.want, c.atBottom)
	}
}

func TestEachKeyIsThinnedForItself(t *testing.T) {
	l := []api.Entry{
		gone("a", 9), put("a", 2),
		put("b", 8), gone("b", 7), put("b", 5),
		gone("c", 4), gone("c", 3),
		put("d", 6), put("d", 1),
	}
	for _, c := range []struct {
		snaps  []int
		bottom bool
		want   []int // which of l
	}{
		{nil, false, []int{0, 2, 5, 7}}, {nil, true, []int{2, 7}},
		{[]int{5}, false, []int{0, 1, 2, 4, 5, 7, 8}}, {[]int{5}, true, []int{0, 1, 2, 4, 7, 8}},
		{[]int{7}, false, []int{0, 1, 2, 3, 5, 7}}, {[]int{7}, true, []int{0, 1, 2, 7}},
		{[]int{3, 1}, false, []int{0, 1, 2, 5, 6, 7, 8}}, {[]int{3, 1}, true, []int{0, 1, 2, 7, 8}},
		{[]int{9, 8}, false, []int{0, 1, 2, 5, 7}}, {[]int{9, 8}, true, []int{0, 1, 2, 7}},
		{[]int{9}, false, []int{0, 2, 5, 7}}, {[]int{9}, true, []int{2, 7}},
	} {
		var want []api.Entry
		for _, i := range c.want {
			want = append(want, l[i])
		}
		if m, e := Thin(l, c.snaps, c.bottom); e != api.OK || !slices.Equal(m, want) {
			t.Errorf("P13.2: Thin, snaps %v, bottom %t: %v, error %d; want %v", c.snaps, c.bottom, m, e, want)
		}
	}
}

func TestHowManySnaps(t *testing.T) {
	l := oneKey(20)
	for _, n := range []int{1, 15, 16} {
		for _, snaps := range [][]int{make([]int, n), slices.Repeat([]int{9}, n), rising(n)} {
			thinned(t, "20 versions", l, snaps, false, api.OK)
			thinned(t, "20 versions", l, snaps, true, api.OK)
		}
	}
	for _, n := range []int{17, 18, 1000} {
		for _, snaps := range [][]int{make([]int, n), slices.Repeat([]int{9}, n), rising(n)} {
			thinned(t, "20 versions", l, snaps, false, api.ErrCount)
			thinned(t, "no versions", nil, snaps, true, api.ErrCount)
		}
	}
	// The sixteenth one is looked at too.
	leaves(t, []api.Entry{put("a", 9), put("a", 3)}, append(make([]int, 15), 5), []int{9, 3}, 2)
}

// rising: n snaps, each above the one ahead.
func rising(n int) []int {
	var snaps []int
	for i := range n {
		snaps = append(snaps, 3*i+2)
	}
	return snaps
}

func TestWhichNumbersASnapMayHave(t *testing.T) {
	for _, n := range []int{0, 1, 1<<40 - 1, 1 << 40} {
		for _, snaps := range [][]int{{n}, {n, 3, 0}, {3, n, 0}, append(make([]int, 15), n)} {
			thinned(t, "edges", edges(), snaps, false, api.OK)
			thinned(t, "edges", edges(), snaps, true, api.OK)
			thinned(t, "nothing", nil, snaps, true, api.OK)
		}
	}
	for _, n := range []int{-1, -2, math.MinInt, 1<<40 + 1, 1 << 41, math.MaxInt, 1<<40 | 1<<62, -1 << 40} {
		for _, snaps := range [][]int{{n}, {n, 3, 0}, {3, n, 0}, append(make([]int, 15), n)} {
			thinned(t, "edges", edges(), snaps, false, api.ErrRange)
			thinned(t, "edges", edges(), snaps, true, api.ErrRange)
			thinned(t, "nothing", nil, snaps, true, api.ErrRange)
		}
	}
}

func TestWhichErrorOfThinComesFirst(t *testing.T) {
	for _, bottom := range []bool{false, true} {
		for what, c := range refused() {
			thinned(t, what, c.l, nil, bottom, c.want)
			thinned(t, what, c.l, []int{-1}, bottom, c.want)
			thinned(t, what, c.l, make([]int, 17), bottom, c.want)
			thinned(t, what, c.l, append(make([]int, 17), math.MaxInt), bottom, c.want)
		}
		for _, l := range lists() {
			thinned(t, "17 snaps, one below 0", l, append(make([]int, 16), -1), bottom, api.ErrCount)
			thinned(t, "17 snaps, the first above 2^40", l, append([]int{math.MaxInt}, make([]int, 16)...), bottom, api.ErrCount)
			thinned(t, "16 snaps, one below 0", l, append(make([]int, 15), -1), bottom, api.ErrRange)
		}
	}
}

func TestThinOfEachList(t *testing.T) {
	for what, l := range lists() {
		for _, snaps := range [][]int{nil, {0}, {1}, {2, 4}, {7, 3, 7}, {99990, 99970}, {1 << 40}, {1<<40 - 1}, rising(16)} {
			thinned(t, what, l, snaps, false, api.OK)
			thinned(t, what, l, snaps, true, api.OK)
		}
	}
}

// Thin has no limit of its own to how many versions there are.
func TestThinOfManyVersions(t *testing.T) {
	n := 1<<16 + 99
	l := many(n)
	m, e := Thin(l, nil, false)
	if e != api.OK || len(m) != (n+2)/3 {
		t.Fatalf("P13.2: Thin of %d versions: %d, error %d; want %d", n, len(m), e, (n+2)/3)
	}
	for i, x := range m {
		if x != l[3*i] {
			t.Fatalf("P13.2: Thin of %d versions: %v is left; want %v", n, x, l[3*i])
		}
	}
	one := oneKey(n)
	if m, e := Thin(one, []int{3, 3*n - 3, 8}, true); e != api.OK || !slices.Equal(m, []api.Entry{one[0], one[1], one[n-2], one[n-1]}) {
		t.Errorf("P13.2: Thin of %d versions of one key: %s, error %d", n, brief(m), e)
	}
}

// eachKey: all versions of one key with numbers from low to high, each with a value, gone, or not there.
func eachKey(low, high int) [][]api.Entry {
	all := [][]api.Entry{nil}
	for seq := high; seq >= low; seq-- {
		for _, l := range all {
			all = append(all, append(slices.Clone(l), put("k", seq)), append(slices.Clone(l), gone("k", seq)))
		}
	}
	return all
}

// eachSnaps: all sets of the numbers from 0 to high.
func eachSnaps(high int) [][]int {
	all := [][]int{nil}
	for n := range high + 1 {
		for _, l := range all {
			all = append(all, append([]int{n}, l...))
		}
	}
	return all
}

func TestAllOfOneKeyAgainstTheModel(t *testing.T) {
	lists, snaps := eachKey(1, 4), eachSnaps(5)
	if len(lists) != 81 || len(snaps) != 64 {
		t.Fatalf("the test itself: %d lists, %d snaps", len(lists), len(snaps))
	}
	for _, l := range lists {
		for _, s := range snaps {
			thinned(t, brief(l), l, s, false, api.OK)
			thinned(t, brief(l), l, s, true, api.OK)
			tellsTheSame(t, l, s)
		}
	}
}

func TestDrawnVersionsAgainstTheModel(t *testing.T) {
	r := rand.New(rand.NewSource(135))
	for i := range 3000 {
		l, s := drawn(r), drawnSnaps(r)
		thinned(t, fmt.Sprint("drawn ", i, " ", brief(l)), l, s, false, api.OK)
		thinned(t, fmt.Sprint("drawn ", i, " ", brief(l)), l, s, true, api.OK)
		tellsTheSame(t, l, s)
		again(t, l, s)
	}
}

// again fails unless what was thinned stays as it is when it is thinned once more.
func again(t *testing.T, l []api.Entry, snaps []int) {
	t.Helper()
	m, _ := Thin(l, snaps, false)
	low, _ := Thin(l, snaps, true)
	for _, c := range []struct {
		from   []api.Entry
		bottom bool
		want   []api.Entry
	}{{m, false, m}, {m, true, low}, {low, true, low}, {low, false, low}} {
		if n, e := Thin(c.from, snaps, c.bottom); e != api.OK || !slices.Equal(n, c.want) {
			t.Errorf("P13.2: Thin of what was thinned, %s, snaps %v, bottom %t: %s, error %d; want %s", brief(c.from), snaps, c.bottom, brief(n), e, brief(c.want))
		}
	}
}

func TestThinOfWhatWasThinned(t *testing.T) {
	for _, l := range eachKey(1, 4) {
		for _, s := range eachSnaps(5) {
			again(t, l, s)
		}
	}
	for _, l := range lists() {
		again(t, l, []int{3, 99990, 7})
	}
}

// P13.4

// tellsTheSame fails unless what was thinned tells now, and at each snap, what was told ahead of it. What is told is what the model of Seen says, and what Seen says.
func tellsTheSame(t *testing.T, l []api.Entry, snaps []int) {
	t.Helper()
	for _, bottom := range []bool{false, true} {
		m, e := Thin(l, snaps, bottom)
		if e != api.OK || Check(m) != api.OK {
			t.Fatalf("P13.4: Thin of %s: %s, error %d", brief(l), brief(m), e)
		}
		for _, n := range append([]int{1 << 40, math.MaxInt}, snaps...) {
			want, _ := modelSeen(l, n)
			model, _ := modelSeen(m, n)
			seen, e := Seen(m, n)
			if e != api.OK || !slices.Equal(model, want) || !slices.Equal(seen, want) {
				t.Errorf("P13.4: %s, thinned with %v, bottom %t: at %d %s, told as %s, error %d; want %s", brief(l), snaps, bottom, n, brief(model), brief(seen), e, brief(want))
			}
		}
	}
}

func TestWhatWasThinnedTellsTheSame(t *testing.T) {
	for _, l := range lists() {
		for _, snaps := range [][]int{nil, {0}, {1}, {2, 4}, {7, 3, 7}, {99990, 99970, 99800}, {1 << 40}, {1<<40 - 1}, rising(16)} {
			tellsTheSame(t, l, snaps)
		}
	}
}

// Where it is not the bottom, older versions may lie below: they may not come to light again.
func TestWhatLiesBelowStaysHidden(t *testing.T) {
	for _, l := range eachKey(3, 5) {
		for _, below := range eachKey(1, 2) {
			for _, snaps := range eachSnaps(6) {
				m, _ := Thin(l, snaps, false)
				ahead, e := Merge([][]api.Entry{l, below})
				behind, why := Merge([][]api.Entry{m, below})
				if e != api.OK || why != api.OK {
					t.Fatalf("P13.4: Merge of %v and %v: errors %d, %d", l, below, e, why)
				}
				for _, n := range append([]int{1 << 40}, snaps...) {
					want, _ := modelSeen(ahead, n)
					if got, _ := Seen(behind, n); !slices.Equal(got, want) {
						t.Errorf("P13.4: %v, thinned with %v, above %v: at %d %v; want %v", l, snaps, below, n, got, want)
					}
				}
			}
		}
	}
}
