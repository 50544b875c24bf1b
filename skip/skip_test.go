package skip

import (
	"math"
	"slices"
	"strconv"
	"strings"
	"testing"

	"tickler/api"
)

// put: a version with a value.
func put(key string, seq int) api.Entry {
	return api.Entry{Key: key, Seq: seq, Kind: 1, Value: key + strconv.Itoa(seq)}
}

// gone: a version of a key that is gone.
func gone(key string, seq int) api.Entry {
	return api.Entry{Key: key, Seq: seq, Kind: 2}
}

// high is a version, and how high its node is.
type high struct {
	x      api.Entry
	height int
}

// order: how versions stand, reckoned without Before.
func order(a, b api.Entry) int {
	if c := strings.Compare(a.Key, b.Key); c != 0 {
		return c
	}
	return b.Seq - a.Seq
}

// laid: the one list with these nodes: on each level the nodes so high are put in order and joined, without Put.
func laid(l []high) State {
	s := State{Head: make([]int, 8)}
	var numbers []int
	for i, h := range l {
		s.Nodes = append(s.Nodes, Node{h.x, make([]int, h.height)})
		numbers = append(numbers, i+1)
	}
	slices.SortStableFunc(numbers, func(a, b int) int { return order(l[a-1].x, l[b-1].x) })
	for level := range 8 {
		way := &s.Head[level]
		for _, n := range numbers {
			if l[n-1].height > level {
				*way = n
				way = &s.Nodes[n-1].Next[level]
			}
		}
	}
	return s
}

// same tells whether two lists have the same nodes and ways.
func same(a, b State) bool {
	return slices.Equal(a.Head, b.Head) && slices.EqualFunc(a.Nodes, b.Nodes, func(x, y Node) bool {
		return x.Entry == y.Entry && slices.Equal(x.Next, y.Next)
	})
}

// versions: what stands in the nodes, in order.
func versions(l []high) []api.Entry {
	var v []api.Entry
	for _, h := range l {
		v = append(v, h.x)
	}
	slices.SortFunc(v, order)
	return v
}

// lists: nodes of lists that may be, at all edges.
func lists() map[string][]high {
	l := map[string][]high{
		"none":           nil,
		"one":            {{put("a", 1), 1}},
		"one, all high":  {{put("a", 1), 8}},
		"one, gone":      {{gone("a", 1), 3}},
		"the example":    {{put("b", 1), 1}, {put("a", 2), 2}, {put("a", 1), 3}},
		"one key":        {{put("a", 5), 2}, {gone("a", 9), 1}, {put("a", 1), 8}, {gone("a", 7), 4}, {put("a", 8), 1}},
		"one number":     {{put("b", 5), 2}, {gone("c", 5), 1}, {put("a", 5), 3}, {put("ab", 5), 1}, {put("aa", 5), 2}},
		"octets":         {{put("\xff", 1), 1}, {put("\x00", 1), 2}, {put("\x80", 1), 3}, {put("\x7f", 1), 2}, {put("a\x00", 1), 1}, {put("a", 1), 1}},
		"edges":          {{put(strings.Repeat("k", 96), 1), 1}, {put("k", 1<<40), 8}, {api.Entry{Key: "k", Seq: 1, Kind: 1, Value: strings.Repeat("v", 512)}, 2}, {api.Entry{Key: "l", Seq: 1, Kind: 1}, 1}},
		"each height":    nil,
		"falling":        nil,
		"low, then high": {{put("a", 3), 1}, {put("b", 3), 1}, {put("c", 3), 1}, {put("b", 2), 8}, {put("b", 4), 8}},
		"levels without": {{put("a", 1), 1}, {put("b", 1), 5}, {put("c", 1), 1}},
	}
	for i := range 24 {
		l["each height"] = append(l["each height"], high{put("k"+strconv.Itoa(i*7%24), i+1), i%8 + 1})
		l["falling"] = append(l["falling"], high{put("k", i+1), 8 - i%8})
	}
	return l
}

// many: n nodes, of versions in no order.
func many(n int) []high {
	var l []high
	for i := range n {
		h := high{put(strconv.Itoa(i*2657%1024), i+1), i*i%8 + 1}
		if i%3 == 0 {
			h.x = gone(h.x.Key, h.x.Seq)
		}
		l = append(l, h)
	}
	return l
}

// brief: a list in few words.
func brief(s State) string {
	return strconv.Itoa(len(s.Nodes)) + " nodes, " + strconv.Itoa(len(s.Head)) + " ways of Head"
}

// P7.1: New

func TestNew(t *testing.T) {
	if s := New(); len(s.Nodes) != 0 || !slices.Equal(s.Head, make([]int, 8)) || Check(s) != api.OK {
		t.Errorf("P7.1: New: %v, Check %d", s, Check(s))
	}
}

// P7.1: Check

func TestCheckOfWhatMayBe(t *testing.T) {
	for what, l := range lists() {
		if e := Check(laid(l)); e != api.OK {
			t.Errorf("P7.1: Check of %s: error %d", what, e)
		}
	}
	for _, n := range []int{100, 4095, 4096} {
		if e := Check(laid(many(n))); e != api.OK {
			t.Errorf("P7.1: Check of %d nodes: error %d", n, e)
		}
	}
	if e := Check(State{Nodes: []Node{}, Head: make([]int, 8)}); e != api.OK {
		t.Errorf("P7.1: Check of an empty list of nodes: error %d", e)
	}
}

// entries: versions that may stand in a node, and that may not.
func entries() (may, not []api.Entry) {
	text := strings.Repeat("x", 600)
	for _, n := range []int{1, 2, 95, 96} {
		may = append(may, api.Entry{Key: text[:n], Seq: 1, Kind: 1}, api.Entry{Key: text[:n], Seq: 1, Kind: 2})
	}
	for _, n := range []int{0, 97, 600} {
		not = append(not, api.Entry{Key: text[:n], Seq: 1, Kind: 1}, api.Entry{Key: text[:n], Seq: 1, Kind: 2})
	}
	for _, n := range []int{1, 2, 1<<31 + 1, 1<<40 - 1, 1 << 40} {
		may = append(may, api.Entry{Key: "k", Seq: n, Kind: 1, Value: "v"})
	}
	for _, n := range []int{0, -1, math.MinInt, 1<<40 + 1, math.MaxInt} {
		not = append(not, api.Entry{Key: "k", Seq: n, Kind: 1, Value: "v"}, api.Entry{Key: "k", Seq: n, Kind: 2})
	}
	for _, n := range []int{0, -1, 3, math.MinInt, math.MaxInt} {
		not = append(not, api.Entry{Key: "k", Seq: 1, Kind: n}, api.Entry{Key: "k", Seq: 1, Kind: n, Value: "v"})
	}
	for _, n := range []int{0, 1, 511, 512} {
		may = append(may, api.Entry{Key: "k", Seq: 1, Kind: 1, Value: text[:n]})
	}
	for _, n := range []int{513, 600} {
		not = append(not, api.Entry{Key: "k", Seq: 1, Kind: 1, Value: text[:n]})
	}
	for _, n := range []int{1, 512, 513} {
		not = append(not, api.Entry{Key: "k", Seq: 1, Kind: 2, Value: text[:n]})
	}
	return may, append(not, api.Entry{})
}

func TestCheckOfVersions(t *testing.T) {
	may, not := entries()
	for _, x := range may {
		for _, h := range []int{1, 8} {
			if e := Check(laid([]high{{put("a", 1), 2}, {x, h}, {put("z", 1), 2}})); e != api.OK {
				t.Errorf("P7.1: Check of a list with %v: error %d", x, e)
			}
		}
	}
	for _, x := range not {
		for _, l := range [][]high{{{x, 1}}, {{put("z", 1), 2}, {x, 1}}, {{x, 8}, {put("a", 1), 2}}} {
			if e := Check(laid(l)); e != api.ErrState {
				t.Errorf("P7.1: Check of a list with %v: error %d", x, e)
			}
		}
	}
}

// wrongStates: states that may not be.
func wrongStates() map[string]State {
	few := []high{{put("b", 1), 2}, {put("a", 2), 3}, {put("c", 1), 1}, {put("a", 1), 2}}
	states := map[string]State{
		"nothing":                   {},
		"empty lists":               {Nodes: []Node{}, Head: []int{}},
		"seven ways":                {Head: make([]int, 7)},
		"nine ways":                 {Head: make([]int, 9)},
		"a way to none":             {Head: []int{1, 0, 0, 0, 0, 0, 0, 0}},
		"a high way to none":        {Head: []int{0, 0, 0, 0, 0, 0, 0, 1}},
		"two of one Key and Seq":    laid([]high{{put("a", 1), 1}, {put("a", 1), 1}}),
		"gone and there":            laid([]high{{put("a", 1), 1}, {gone("a", 1), 2}}),
		"two of one among others":   laid([]high{{put("a", 1), 1}, {put("b", 1), 2}, {gone("b", 1), 1}, {put("c", 1), 1}}),
		"4097 nodes":                laid(many(4097)),
		"5000 nodes":                laid(many(5000)),
		"nodes, but no way to them": {Nodes: []Node{{put("a", 1), []int{0}}}, Head: make([]int, 8)},
	}
	change := func(what string, turn func(*State)) {
		s := laid(few)
		turn(&s)
		states[what] = s
	}
	change("Head with seven ways", func(s *State) { s.Head = s.Head[:7] })
	change("Head with nine ways", func(s *State) { s.Head = append(s.Head, 0) })
	change("Head without ways", func(s *State) { s.Head = nil })
	change("a node more", func(s *State) { s.Nodes = append(s.Nodes, Node{put("d", 1), []int{0}}) })
	change("a node less", func(s *State) { s.Nodes = s.Nodes[:3] })
	change("a ring of all", func(s *State) { s.Nodes[2].Next[0] = 2 })
	change("a ring of one", func(s *State) { s.Nodes[2].Next[0] = 3 })
	change("a ring of one at the beginning", func(s *State) { s.Nodes[1].Next[0] = 2 })
	change("a high ring", func(s *State) { s.Nodes[1].Next[2] = 2 })
	change("a ring of two", func(s *State) { s.Nodes[0].Next[0] = 4 })
	change("a node left out", func(s *State) { s.Nodes[1].Next[0] = 1 })
	change("the first left out", func(s *State) { s.Head[0] = 4 })
	change("the last left out", func(s *State) { s.Nodes[0].Next[0] = 0 })
	change("a node left out on a level", func(s *State) { s.Nodes[1].Next[1] = 1 })
	change("the last left out on a level", func(s *State) { s.Nodes[3].Next[1] = 0 })
	change("the first left out on a level", func(s *State) { s.Head[1] = 4 })
	change("all left out on a level", func(s *State) { s.Head[1], s.Nodes[1].Next[1] = 0, 0 })
	change("a way to a lower node", func(s *State) { s.Nodes[1].Next[2] = 4 })
	change("a way of Head to a lower node", func(s *State) { s.Head[3] = 2 })
	change("a way of Head to a low node", func(s *State) { s.Head[7] = 3 })
	change("a level too high", func(s *State) { s.Nodes[2].Next = append(s.Nodes[2].Next, 0) })
	change("a level too low", func(s *State) { s.Nodes[1].Next = s.Nodes[1].Next[:2] })
	change("out of order", func(s *State) { s.Nodes[0].Entry.Key = "d" })
	change("out of order by Seq", func(s *State) { s.Nodes[3].Entry.Seq = 3 })
	change("of one Seq", func(s *State) { s.Nodes[3].Entry.Seq = 2 })
	for k := range few {
		change("node "+strconv.Itoa(k)+" without a level", func(s *State) { s.Nodes[k].Next = nil })
		change("node "+strconv.Itoa(k)+" with nine levels", func(s *State) { s.Nodes[k].Next = append(s.Nodes[k].Next, make([]int, 9)...)[:9] })
	}
	return states
}

func TestCheckOfWhatMayNotBe(t *testing.T) {
	for what, s := range wrongStates() {
		if e := Check(s); e != api.ErrState {
			t.Errorf("P7.1: Check of %s: error %d", what, e)
		}
	}
}

func TestCheckOfNineLevels(t *testing.T) {
	// All else would be as it should.
	if e := Check(State{Nodes: []Node{{put("a", 1), make([]int, 9)}}, Head: []int{1, 1, 1, 1, 1, 1, 1, 1}}); e != api.ErrState {
		t.Errorf("P7.1: Check of a node with nine levels: error %d", e)
	}
	if e := Check(State{Nodes: []Node{{put("a", 1), make([]int, 9)}}, Head: []int{1, 1, 1, 1, 1, 1, 1, 1, 1}}); e != api.ErrState {
		t.Errorf("P7.1: Check of nine levels: error %d", e)
	}
}

func TestCheckOfEachWayTurned(t *testing.T) {
	for what, l := range lists() {
		numbers := []int{-1, len(l) + 1, len(l) + 2, math.MinInt, math.MaxInt, 1 << 32}
		for n := range len(l) + 1 {
			numbers = append(numbers, n)
		}
		for k := -1; k < len(l); k++ {
			levels := 8
			if k >= 0 {
				levels = l[k].height
			}
			for level := range levels {
				for _, n := range numbers {
					s := laid(l)
					ways := s.Head
					if k >= 0 {
						ways = s.Nodes[k].Next
					}
					want := api.ErrState
					if ways[level] == n {
						want = api.OK
					}
					ways[level] = n
					if e := Check(s); e != want {
						t.Errorf("P7.1: Check of %s, the way of node %d on level %d turned to %d: error %d; want %d", what, k, level, n, e, want)
					}
				}
			}
		}
	}
}

func TestCheckOfEachTwoSwapped(t *testing.T) {
	for what, l := range lists() {
		for i := range l {
			for k := range i {
				s := laid(l)
				s.Nodes[i].Entry, s.Nodes[k].Entry = s.Nodes[k].Entry, s.Nodes[i].Entry
				if e := Check(s); e != api.ErrState {
					t.Errorf("P7.1: Check of %s, versions %d and %d swapped: error %d", what, k, i, e)
				}
			}
		}
	}
}

// P7.1: all others first Check's error

func TestOthersTellChecksErrorFirst(t *testing.T) {
	_, not := entries()
	for what, s := range wrongStates() {
		for _, x := range append(not, put("q", 5), put("a", 1)) {
			for _, h := range []int{0, 1, 9} {
				if got, e := Put(s, x, h); e != api.ErrState || len(got.Nodes) != 0 || len(got.Head) != 0 {
					t.Errorf("P7.1: Put to %s: %s, error %d", what, brief(got), e)
				}
			}
		}
		for _, key := range []string{"", "a", "q"} {
			if x, ok, e := Get(s, key, 5); e != api.ErrState || ok || x != (api.Entry{}) {
				t.Errorf("P7.1: Get of %q from %s: %v, %t, error %d", key, what, x, ok, e)
			}
		}
		if l, e := All(s); e != api.ErrState || len(l) != 0 {
			t.Errorf("P7.1: All of %s: %d, error %d", what, len(l), e)
		}
	}
}

// P7.1: Before

func TestBefore(t *testing.T) {
	rising := []api.Entry{
		{Key: "", Seq: math.MaxInt}, {Key: "", Seq: 0}, {Key: "", Seq: math.MinInt},
		put("\x00", 1), put("\x00\x00", 1), put("A", 1), put("a", 1<<40), put("a", 3), put("a", 2), put("a", 1), {Key: "a", Seq: -1},
		put("a\x00", 9), put("aa", 1), put("ab", 7), put("b", 8), put("b", 7), put("ba", 9), put("\x7f", 1), put("\x80", 2), put("\xc3\xa4", 1), put("\xff", 1), put("\xff\x00", 1),
		put(strings.Repeat("\xff", 200), 5),
	}
	for i, a := range rising {
		for k, b := range rising {
			if got := Before(a, b); got != (i < k) {
				t.Errorf("P7.1: Before(%v, %v): %t", a, b, got)
			}
		}
	}
}

func TestBeforeAsksForKeyAndSeqAlone(t *testing.T) {
	a, b := api.Entry{Key: "k", Seq: 4, Kind: 1, Value: "a"}, api.Entry{Key: "k", Seq: 4, Kind: 2, Value: "b"}
	if Before(a, b) || Before(b, a) {
		t.Errorf("P7.1: Before of two of one Key and Seq: %t, %t", Before(a, b), Before(b, a))
	}
	b.Seq = 5
	if Before(a, b) || !Before(b, a) {
		t.Errorf("P7.1: Before(%v, %v): %t, the other way %t", a, b, Before(a, b), Before(b, a))
	}
}

// P7.1: Put

func TestPutOfWhatMayStand(t *testing.T) {
	may, _ := entries()
	for _, x := range may {
		for h := 1; h <= 8; h++ {
			l := []high{{put("a", 1), 2}, {put("z", 1), 2}}
			got, e := Put(laid(l), x, h)
			if want := laid(append(l, high{x, h})); e != api.OK || !same(got, want) {
				t.Errorf("P7.1: Put of %v, %d high: %v, error %d; want %v", x, h, got, e, want)
			}
		}
	}
}

func TestPutsErrorsInOrder(t *testing.T) {
	_, not := entries()
	full := laid(many(4096))
	few := laid([]high{{put("k", 1), 2}, {gone("k", 2), 1}})
	refused := func(what string, s State, x api.Entry, h int, want api.Errno) {
		t.Helper()
		if got, e := Put(s, x, h); e != want || len(got.Nodes) != 0 || len(got.Head) != 0 {
			t.Errorf("P7.1: Put of %s: %s, error %d; want none, error %d", what, brief(got), e, want)
		}
	}
	for _, h := range []int{math.MinInt, -1, 0, 9, 10, math.MaxInt} {
		refused("a height that may not be", New(), put("k", 1), h, api.ErrRange)
		refused("a height that may not be, of one that is there", few, put("k", 1), h, api.ErrRange)
		refused("a height that may not be, to a full list", full, put("k", 1), h, api.ErrRange)
		for _, x := range not {
			refused("what may not stand, and so high", few, x, h, api.ErrArg)
		}
	}
	for _, x := range not {
		refused("what may not stand", New(), x, 1, api.ErrArg)
		refused("what may not stand", few, x, 8, api.ErrArg)
		refused("what may not stand, to a full list", full, x, 1, api.ErrArg)
	}
	for _, x := range []api.Entry{put("k", 1), put("k", 2), gone("k", 1), gone("k", 2), {Key: "k", Seq: 1, Kind: 1, Value: "other"}} {
		refused("one that is there", few, x, 1, api.ErrTwice)
		refused("one that is there", few, x, 8, api.ErrTwice)
	}
	for _, n := range full.Nodes[:20] {
		refused("one that is there, to a full list", full, n.Entry, 3, api.ErrTwice)
		refused("one more", full, put(n.Entry.Key, n.Entry.Seq+4096), 3, api.ErrFull)
		refused("one more", full, put("a", n.Entry.Seq), 1, api.ErrFull)
	}
}

func TestPutOfTheLastThatHasRoom(t *testing.T) {
	l := many(4096)
	got, e := Put(laid(l[:4095]), l[4095].x, l[4095].height)
	if e != api.OK || !same(got, laid(l)) {
		t.Errorf("P7.1: Put of the 4096th: %s, error %d", brief(got), e)
	}
}
