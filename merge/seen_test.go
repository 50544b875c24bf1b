package merge

import (
	"math"
	"math/rand"
	"slices"
	"strings"
	"testing"

	"tickler/api"
)

// sees fails unless Seen tells what the model does.
func sees(t *testing.T, what string, l []api.Entry, seq int) {
	t.Helper()
	p, e := Seen(l, seq)
	if want, why := modelSeen(l, seq); e != why || !slices.Equal(p, want) {
		t.Errorf("P13.3: Seen of %s at %d: %s, error %d; want %s, error %d", what, seq, brief(p), e, brief(want), why)
	}
}

// P13.3: Seen

func TestSeenAtEachNumber(t *testing.T) {
	l := []api.Entry{gone("a", 30), put("a", 20), holds("a", 10, ""), put("b", 25), gone("c", 15), put("d", 1<<40)}
	a10, a20, b, d := api.Pair{Key: "a"}, api.Pair{Key: "a", Value: "a20"}, api.Pair{Key: "b", Value: "b25"}, api.Pair{Key: "d", Value: "d1099511627776"}
	for _, c := range []struct {
		seq  int
		want []api.Pair
	}{
		{math.MinInt, nil}, {-1, nil}, {0, nil}, {1, nil}, {9, nil},
		{10, []api.Pair{a10}}, {11, []api.Pair{a10}}, {15, []api.Pair{a10}}, {19, []api.Pair{a10}},
		{20, []api.Pair{a20}}, {21, []api.Pair{a20}}, {24, []api.Pair{a20}},
		{25, []api.Pair{a20, b}}, {29, []api.Pair{a20, b}},
		{30, []api.Pair{b}}, {31, []api.Pair{b}}, {1<<40 - 1, []api.Pair{b}},
		{1 << 40, []api.Pair{b, d}}, {1<<40 + 1, []api.Pair{b, d}}, {math.MaxInt, []api.Pair{b, d}},
	} {
		if p, e := Seen(l, c.seq); e != api.OK || !slices.Equal(p, c.want) {
			t.Errorf("P13.3: Seen at %d: %v, error %d; want %v", c.seq, p, e, c.want)
		}
	}
	if p, e := Seen(example(), 2); e != api.OK || !slices.Equal(p, []api.Pair{{Key: "a", Value: "x"}}) {
		t.Errorf("P13.3: Seen of the example at 2: %v, error %d", p, e)
	}
	if p, e := Seen(example(), 3); e != api.OK || len(p) != 0 {
		t.Errorf("P13.3: Seen of the example at 3: %v, error %d", p, e)
	}
}

func TestSeenOfEachList(t *testing.T) {
	for what, l := range lists() {
		for _, seq := range []int{math.MinInt, -1, 0, 1, 1<<40 - 1, 1 << 40, 1<<40 + 1, math.MaxInt} {
			sees(t, what, l, seq)
		}
		for _, x := range l {
			for _, seq := range []int{x.Seq - 1, x.Seq, x.Seq + 1} {
				sees(t, what, l, seq)
			}
		}
	}
}

// A refusal does not hang on the number.
func TestSeenOfWhatMayNotBe(t *testing.T) {
	for what, c := range refused() {
		for _, seq := range []int{math.MinInt, 0, 5, 1 << 40, math.MaxInt} {
			if p, e := Seen(c.l, seq); e != c.want || len(p) != 0 {
				t.Errorf("P13.3: Seen of %s at %d: %v, error %d; want %d", what, seq, p, e, c.want)
			}
		}
	}
}

func TestSeenOfManyVersions(t *testing.T) {
	sees(t, "many", many(1<<16+99), 80000)
	sees(t, "many of one key", oneKey(1<<16+99), 4)
}

func TestSeenAgainstTheModel(t *testing.T) {
	for _, l := range eachKey(1, 5) {
		for seq := range 8 {
			sees(t, brief(l), l, seq-1)
		}
	}
	r := rand.New(rand.NewSource(136))
	for range 1500 {
		l := drawn(r)
		for seq := range 15 {
			sees(t, brief(l), l, seq-1)
		}
	}
}

// P13.3: Between

// pairs: some in order, of keys within one another and at the octets' ends.
func pairs() []api.Pair {
	var l []api.Pair
	for _, key := range []string{"\x00", "\x00\x00", "a", "a\x00", "aa", "b", "b\xff", "c", "\x7f", "\x80", "\xff", "\xff\xff"} {
		l = append(l, api.Pair{Key: key, Value: "of " + key})
	}
	return l
}

// around: texts that are equal to the pairs' keys, just below them and just above.
func around(l []api.Pair) []string {
	all := []string{"", "\x00", "\xff\xff\xff", strings.Repeat("b", 200)}
	for _, p := range l {
		all = append(all, p.Key, p.Key+"\x00")
		if last := len(p.Key) - 1; last >= 0 {
			below := "\xff"
			if p.Key[last] > 0 {
				below = p.Key[:last] + string([]byte{p.Key[last] - 1}) + "\xff"
			}
			all = append(all, below, p.Key[:last])
		}
	}
	return all
}

func TestBetweenByHand(t *testing.T) {
	l := []api.Pair{{Key: "b", Value: "1"}, {Key: "d", Value: "2"}, {Key: "d\x00", Value: "3"}, {Key: "f"}}
	for _, c := range []struct {
		from, to string
		want     []api.Pair
	}{
		{"", "", l}, {"a", "", l}, {"b", "", l}, {"b\x00", "", l[1:]}, {"d", "", l[1:]}, {"d\x00", "", l[2:]}, {"d\x00\x00", "", l[3:]}, {"f", "", l[3:]}, {"f\x00", "", nil}, {"z", "", nil},
		{"", "a", nil}, {"", "b", nil}, {"", "b\x00", l[:1]}, {"", "d", l[:1]}, {"", "d\x00", l[:2]}, {"", "d\x01", l[:3]}, {"", "f", l[:3]}, {"", "f\x00", l}, {"", "z", l},
		{"b", "f", l[:3]}, {"b", "b", nil}, {"d", "d", nil}, {"d", "d\x00", l[1:2]}, {"c", "e", l[1:3]}, {"e", "f", nil}, {"e", "ea", nil},
		{"d", "b", nil}, {"f", "a", nil}, {"z", "y", nil}, {"c", "b\xff", nil}, {"", "\x00", nil},
	} {
		if got := Between(l, c.from, c.to); !slices.Equal(got, c.want) {
			t.Errorf("P13.3: Between %q and %q: %s; want %s", c.from, c.to, brief(got), brief(c.want))
		}
	}
}

func TestBetweenOfNoPairs(t *testing.T) {
	for _, l := range [][]api.Pair{nil, {}} {
		for _, from := range []string{"", "a"} {
			for _, to := range []string{"", "a", "b"} {
				if got := Between(l, from, to); len(got) != 0 {
					t.Errorf("P13.3: Between of no pairs: %v", got)
				}
			}
		}
	}
}

// Those of l, as they stand: pairs that are out of order, twice, or that no store may have are told as they are.
func TestBetweenOfWhateverPairs(t *testing.T) {
	turned := pairs()
	slices.Reverse(turned)
	for what, l := range map[string][]api.Pair{
		"in order":     pairs(),
		"turned":       turned,
		"twice":        slices.Concat(pairs(), pairs()),
		"no key":       {{Key: "", Value: "x"}, {}, {Key: "a"}},
		"long":         {{Key: strings.Repeat("b", 97), Value: strings.Repeat("v", 513)}, {Key: strings.Repeat("b", 1000)}},
		"one":          {{Key: "b", Value: "x"}},
		"one value":    {{Key: "a", Value: "x"}, {Key: "b", Value: "x"}, {Key: "c", Value: "x"}},
		"other values": {{Key: "b", Value: "x"}, {Key: "b", Value: "y"}, {Key: "b", Value: "x"}},
	} {
		for _, from := range around(l) {
			for _, to := range around(l) {
				want := modelBetween(l, from, to)
				if got := Between(l, from, to); !slices.Equal(got, want) {
					t.Errorf("P13.3: Between of %s, from %q to %q: %s; want %s", what, from, to, brief(got), brief(want))
				}
			}
		}
	}
}

func TestBetweenOfWhatIsSeen(t *testing.T) {
	r := rand.New(rand.NewSource(137))
	for range 500 {
		l := drawn(r)
		all, _ := Seen(l, 7)
		for _, from := range around(all) {
			for _, to := range around(all) {
				// The versions of these keys alone tell the same.
				part := slices.DeleteFunc(slices.Clone(l), func(x api.Entry) bool { return x.Key < from || to != "" && x.Key >= to })
				want, _ := Seen(part, 7)
				if got := Between(all, from, to); !slices.Equal(got, want) {
					t.Fatalf("P13.3: Between of %s, from %q to %q: %s; want %s", brief(all), from, to, brief(got), brief(want))
				}
			}
		}
	}
}
