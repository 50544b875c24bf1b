package merge

import (
	"cmp"
	"fmt"
	"maps"
	"math"
	"math/rand"
	"slices"
	"strconv"
	"strings"
	"testing"

	"tickler/api"
)

// put: a version with a value.
func put(key string, seq int) api.Entry {
	return api.Entry{Key: key, Seq: seq, Kind: 1, Value: key + strconv.Itoa(seq)}
}

// holds: a version with that value.
func holds(key string, seq int, value string) api.Entry {
	return api.Entry{Key: key, Seq: seq, Kind: 1, Value: value}
}

// gone: a version of a key that is gone.
func gone(key string, seq int) api.Entry {
	return api.Entry{Key: key, Seq: seq, Kind: 2}
}

// many: n versions in order, several of each key, some gone.
func many(n int) []api.Entry {
	var l []api.Entry
	for i := range n {
		x := put(fmt.Sprintf("key/%05d", i/3), 100000-i)
		if i%5 == 3 {
			x = gone(x.Key, x.Seq)
		}
		l = append(l, x)
	}
	return l
}

// oneKey: n versions of one key.
func oneKey(n int) []api.Entry {
	var l []api.Entry
	for i := range n {
		l = append(l, put("one key", 3*(n-i)))
	}
	return l
}

// edges: versions at the last lengths and numbers that may be.
func edges() []api.Entry {
	return []api.Entry{
		gone("\x00", 1<<40), put("\x00", 1<<40-1), holds("\x00", 2, ""), gone("\x00", 1),
		holds("\x00\x00", 1, strings.Repeat("\x00", 512)), put("\x7f", 1), put("\x80", 1<<40), gone("\xc3\xa4", 9),
		holds(strings.Repeat("\xff", 95), 1<<40, strings.Repeat("v", 511)),
		holds(strings.Repeat("\xff", 96), 1<<40, strings.Repeat("v", 512)), gone(strings.Repeat("\xff", 96), 1),
	}
}

// lists: versions that may be a run.
func lists() map[string][]api.Entry {
	return map[string][]api.Entry{
		"none":                     nil,
		"an empty list":            {},
		"the example":              example(),
		"one":                      {put("a", 1)},
		"one gone":                 {gone("a", 1)},
		"one without value":        {holds("a", 1, "")},
		"one of the greatest Seq":  {put("a", 1<<40)},
		"one key, each gone":       {gone("a", 4), gone("a", 3), gone("a", 2), gone("a", 1)},
		"one key, gone in between": {put("a", 5), gone("a", 4), put("a", 3), gone("a", 2), gone("a", 1)},
		"one key, gone first":      {gone("a", 9), put("a", 7), put("a", 5), put("a", 3)},
		"two keys gone":            {gone("a", 9), gone("a", 7), gone("b", 8), gone("b", 6)},
		"the lesser key is newer":  {put("a", 9), put("b", 2), put("c", 5), put("c", 1)},
		"keys within one another":  {put("a", 2), put("aa", 3), put("aa", 1), gone("aaa", 3), put("ab", 1)},
		"one Seq for all":          {put("a", 7), gone("b", 7), put("c", 7), holds("d", 7, "")},
		"edges":                    edges(),
		"many":                     many(200),
		"20 of one key":            oneKey(20),
	}
}

// example: the versions of the chapter's example.
func example() []api.Entry {
	return []api.Entry{gone("a", 3), holds("a", 1, "x")}
}

// wrong: versions that may not stand in a node, all but for one thing.
func wrong() map[string]api.Entry {
	return map[string]api.Entry{
		"no key":                        holds("", 5, "v"),
		"no key, gone":                  gone("", 5),
		"a key of 97 octets":            holds(strings.Repeat("m", 97), 5, "v"),
		"a key of 1000 octets":          gone(strings.Repeat("m", 1000), 5),
		"Seq 0":                         holds("m", 0, "v"),
		"Seq -1":                        gone("m", -1),
		"the least Seq":                 gone("m", math.MinInt),
		"Seq 2^40 + 1":                  holds("m", 1<<40+1, "v"),
		"the greatest Seq":              gone("m", math.MaxInt),
		"Kind 0":                        {Key: "m", Seq: 5},
		"Kind 0 with a value":           {Key: "m", Seq: 5, Value: "v"},
		"Kind 3":                        {Key: "m", Seq: 5, Kind: 3},
		"Kind -1":                       {Key: "m", Seq: 5, Kind: -1},
		"Kind 257":                      {Key: "m", Seq: 5, Kind: 257, Value: "v"},
		"a value of 513 octets":         holds("m", 5, strings.Repeat("v", 513)),
		"a value of 2^16 octets":        holds("m", 5, strings.Repeat("v", 1<<16)),
		"gone, with a value":            {Key: "m", Seq: 5, Kind: 2, Value: "v"},
		"gone, with a value of octet 0": {Key: "m", Seq: 5, Kind: 2, Value: "\x00"},
		"nothing at all":                {},
	}
}

// disorders: two versions that may not stand one behind the other.
func disorders() map[string][2]api.Entry {
	return map[string][2]api.Entry{
		"one version twice":                {put("m", 5), put("m", 5)},
		"one key and number, other value":  {put("m", 5), holds("m", 5, "x")},
		"one key and number, gone":         {put("m", 5), gone("m", 5)},
		"the lesser number first":          {put("m", 5), put("m", 6)},
		"the least number first":           {put("m", 1), gone("m", 1<<40)},
		"the greater key first":            {put("m", 5), put("l", 5)},
		"the greater key first, by number": {put("m", 5), put("l", 4)},
		"the greater key first, newer":     {put("m", 5), put("l", 9)},
		"the longer key first":             {put("ma", 5), put("m", 5)},
		"octet 80 ahead of 7f":             {put("\x80", 5), put("\x7f", 5)},
		"octet ff ahead of 00":             {put("\xff", 5), put("\x00", 5)},
	}
}

// refused: versions that may be no run, with Check's error.
func refused() map[string]struct {
	l    []api.Entry
	want api.Errno
} {
	all := map[string]struct {
		l    []api.Entry
		want api.Errno
	}{}
	for what, x := range wrong() {
		c := all[what]
		c.l, c.want = []api.Entry{put("a", 9), x, put("z", 4)}, api.ErrArg
		all[what] = c
	}
	for what, pair := range disorders() {
		c := all[what]
		c.l, c.want = pair[:], api.ErrOrder
		all[what] = c
	}
	return all
}

// stands: may a node have x? Reckoned without skip.
func stands(x api.Entry) bool {
	room := map[int]int{1: 512, 2: 0}
	longest, kind := room[x.Kind]
	return kind && len(x.Value) <= longest && x.Key != "" && len(x.Key) < 97 && x.Seq > 0 && x.Seq-1 < 1<<40
}

// modelCheck: what Check should answer.
func modelCheck(l []api.Entry) api.Errno {
	why := api.OK
	for i, x := range l {
		if !stands(x) {
			return api.ErrArg
		}
		if i == 0 {
			continue
		}
		keys := strings.Compare(l[i-1].Key, x.Key)
		if keys > 0 || keys == 0 && l[i-1].Seq <= x.Seq {
			why = api.ErrOrder
		}
	}
	return why
}

// modelMerge: what Merge should answer: the versions by their keys and numbers, and these in order.
func modelMerge(runs [][]api.Entry) ([]api.Entry, api.Errno) {
	if len(runs) >= 65 || len(slices.Concat(runs...)) >= 65537 {
		return nil, api.ErrCount
	}
	all := map[string]map[int]api.Entry{}
	why := api.OK
	for _, run := range runs {
		if e := modelCheck(run); e != api.OK {
			return nil, e
		}
		for _, x := range run {
			if all[x.Key] == nil {
				all[x.Key] = map[int]api.Entry{}
			}
			if _, there := all[x.Key][x.Seq]; there {
				why = api.ErrTwice
			}
			all[x.Key][x.Seq] = x
		}
	}
	if why != api.OK {
		return nil, why
	}
	var l []api.Entry
	for _, key := range slices.Sorted(maps.Keys(all)) {
		seqs := slices.Sorted(maps.Keys(all[key]))
		slices.Reverse(seqs)
		for _, seq := range seqs {
			l = append(l, all[key][seq])
		}
	}
	return l, api.OK
}

// modelSees: does one with that number see x, of all of l? No other of its key stands between.
func modelSees(l []api.Entry, x api.Entry, n int) bool {
	return x.Seq <= n && !slices.ContainsFunc(l, func(y api.Entry) bool {
		return y.Key == x.Key && y.Seq > x.Seq && y.Seq <= n
	})
}

// modelThin: what Thin should answer: each version is asked for itself whether it stays.
func modelThin(l []api.Entry, snaps []int, bottom bool) ([]api.Entry, api.Errno) {
	if e := modelCheck(l); e != api.OK {
		return nil, e
	}
	if len(snaps) >= 17 {
		return nil, api.ErrCount
	}
	for _, n := range snaps {
		if uint64(n) > 1<<40 {
			return nil, api.ErrRange
		}
	}
	stays := slices.DeleteFunc(slices.Clone(l), func(x api.Entry) bool {
		return !slices.ContainsFunc(append([]int{math.MaxInt}, snaps...), func(n int) bool { return modelSees(l, x, n) })
	})
	if !bottom {
		return stays, api.OK
	}
	return slices.DeleteFunc(slices.Clone(stays), func(x api.Entry) bool {
		return !slices.ContainsFunc(stays, func(y api.Entry) bool { return y.Key == x.Key && y.Seq <= x.Seq && y.Kind == 1 })
	}), api.OK
}

// modelSeen: what Seen should answer: a map of the newest.
func modelSeen(l []api.Entry, seq int) ([]api.Pair, api.Errno) {
	if e := modelCheck(l); e != api.OK {
		return nil, e
	}
	newest := map[string]api.Entry{}
	for _, x := range l {
		if x.Seq <= seq && x.Seq > newest[x.Key].Seq {
			newest[x.Key] = x
		}
	}
	var pairs []api.Pair
	for key, x := range newest {
		if x.Kind == 1 {
			pairs = append(pairs, api.Pair{Key: key, Value: x.Value})
		}
	}
	slices.SortFunc(pairs, func(a, b api.Pair) int { return cmp.Compare(a.Key, b.Key) })
	return pairs, api.OK
}

// modelBetween: what Between should answer.
func modelBetween(l []api.Pair, from, to string) []api.Pair {
	return slices.DeleteFunc(slices.Clone(l), func(p api.Pair) bool {
		return strings.Compare(p.Key, from) == -1 || to != "" && strings.Compare(p.Key, to) != -1
	})
}

// drawn: versions in order, of few keys and numbers.
func drawn(r *rand.Rand) []api.Entry {
	var l []api.Entry
	for _, key := range []string{"a", "a\x00", "b", "c", "\xff"} {
		for seq := 12; seq > 0; seq-- {
			switch r.Intn(7) {
			case 0, 1:
				l = append(l, put(key, seq))
			case 2, 3:
				l = append(l, gone(key, seq))
			}
		}
	}
	return l
}

// drawnSnaps: few snaps or many, in whatever order, some the same.
func drawnSnaps(r *rand.Rand) []int {
	var snaps []int
	for range r.Intn(4) * r.Intn(6) {
		snaps = append(snaps, r.Intn(15))
	}
	return snaps
}

// dealt: the versions of l dealt out to n runs.
func dealt(r *rand.Rand, l []api.Entry, n int) [][]api.Entry {
	runs := make([][]api.Entry, n)
	for _, x := range l {
		i := r.Intn(n)
		runs[i] = append(runs[i], x)
	}
	return runs
}

// brief: a list as a failure tells it: how many there are, and the first ones, with no octet that is not to be read.
func brief[T any](l []T) string {
	return strconv.QuoteToASCII(fmt.Sprintf("%d: %.20v", len(l), l[:min(len(l), 12)]))
}

func TestTheListsAreAsTold(t *testing.T) {
	for what, l := range lists() {
		if e := modelCheck(l); e != api.OK {
			t.Errorf("%s may be no run: error %d", what, e)
		}
	}
	for what, c := range refused() {
		if e := modelCheck(c.l); e != c.want {
			t.Errorf("%s: error %d; want %d", what, e, c.want)
		}
	}
}
