package table

import (
	"math"
	"slices"
	"strings"
	"testing"

	"tickler/api"
	"tickler/bloom"
)

// filters: filters that fit, and that may not be: Range and Between look at none.
func filters() []bloom.Filter {
	return []bloom.Filter{{}, {K: 7, Bits: []byte{0, 0}}, {K: -1}, {K: 9, Bits: make([]byte, 9000)}, {K: math.MaxInt, Bits: []byte{}}}
}

// bounds: keys that the versions have, keys beside them, and none.
func bounds(l []api.Entry) []string {
	all := []string{"", "\x00", "\xff\xff\xff"}
	for i, x := range l {
		if len(l) > 12 && i%7 > 0 && i < len(l)-1 {
			continue
		}
		all = append(all, x.Key, x.Key+"\x00", x.Key[:max(0, len(x.Key)-1)])
	}
	slices.Sort(all)
	return slices.Compact(all)
}

// unmade: the versions of tables that no call made.
func unmade() map[string][]api.Entry {
	return map[string][]api.Entry{
		"no versions":                  nil,
		"an empty list":                {},
		"nothing at all":               {{}},
		"an empty key, and others":     {{}, {Key: "", Seq: -1}, put("a", 1)},
		"long keys":                    {put(strings.Repeat("a", 97), 1), put(strings.Repeat("a", 1000), 2), put("b", 1)},
		"numbers of any size":          {put("a", math.MaxInt), put("a", 0), put("a", -1), put("a", math.MinInt), put("b", math.MaxInt)},
		"kinds of any size":            {{Key: "a", Seq: 2, Kind: -7}, {Key: "a", Seq: 1, Kind: 3, Value: "v"}, {Key: "b", Kind: math.MaxInt}},
		"gone, with values":            {{Key: "a", Seq: 2, Kind: 2, Value: "v"}, {Key: "b", Seq: 2, Kind: 2, Value: strings.Repeat("v", 600)}},
		"octets":                       {put("\x00", 1), put("\x00\x00", 1), put("\x7f", 1), put("\x80", 1), put("\xff", 1), put("\xff\xff", 1)},
		"more than 4096":               apiece(5000),
		"one twice":                    {put("a", 1), put("a", 1)},
		"one twice, other value":       {put("a", 1), holds("a", 1, "x")},
		"one twice, other kind":        {put("a", 1), gone("a", 1)},
		"one twice, behind others":     {put("a", 3), put("a", 2), put("b", 2), put("b", 2)},
		"one twice, ahead of others":   {put("a", 3), put("a", 3), put("b", 2), put("c", 2)},
		"nothing at all twice":         {{}, {}},
		"the lesser number first":      {put("a", 1), put("a", 2)},
		"a negative number first":      {put("a", -1), put("a", 0)},
		"the least number first":       {put("a", math.MinInt), put("a", math.MaxInt)},
		"the greater key first":        {put("b", 1), put("a", 1)},
		"the longer key first":         {put("ab", 1), put("a", 1)},
		"octet 80 first":               {put("\x80", 1), put("\x7f", 1)},
		"the last out of order":        append(many(40), put("a", 1)),
		"the first out of order":       append([]api.Entry{put("z", 1)}, many(40)...),
		"the first and the last right": {put("a", 1), put("c", 1), put("b", 1), put("d", 1)},
		"an empty key last":            {put("a", 1), {}},
		"out of order, may not stand":  {{Key: "b", Kind: 9}, {Key: "a", Seq: -1}},
	}
}

// P10.2

func TestRangeByHand(t *testing.T) {
	for _, c := range []struct {
		what      string
		l         []api.Entry
		low, high string
		want      api.Errno
	}{
		{"no versions", nil, "", "", api.ErrCount},
		{"one", []api.Entry{put("a", 1)}, "a", "a", api.OK},
		{"one key", oneKey(20), "one key", "one key", api.OK},
		{"many", many(40), "key/0000", "key/0013", api.OK},
		{"one with an empty key", []api.Entry{{}}, "", "", api.OK},
		{"an empty key first", []api.Entry{{Seq: 1}, {Key: "\xff"}}, "", "\xff", api.OK},
		{"two turned", []api.Entry{put("b", 1), put("a", 1)}, "", "", api.ErrOrder},
		{"one twice", []api.Entry{put("b", 1), put("b", 1)}, "", "", api.ErrOrder},
	} {
		for _, f := range filters() {
			if low, high, e := Range(Table{c.l, f}); low != c.low || high != c.high || e != c.want {
				t.Errorf("P10.2: Range of %s: %q, %q, error %d; want %q, %q, error %d", c.what, low, high, e, c.low, c.high, c.want)
			}
		}
	}
}

func TestBetweenByHand(t *testing.T) {
	l := []api.Entry{put("a", 1), put("b", 3), gone("b", 2), put("b", 1), put("ba", 9), put("c", 4), gone("d", 1)}
	for _, c := range []struct {
		from, to  string
		low, high int // of l those from low on, below high
	}{
		{"", "", 0, 7}, {"a", "", 0, 7}, {"\x00", "", 0, 7}, {"a\x00", "", 1, 7}, {"b", "", 1, 7}, {"b\x00", "", 4, 7}, {"ba", "", 4, 7}, {"bb", "", 5, 7}, {"d", "", 6, 7}, {"d\x00", "", 7, 7}, {"\xff", "", 7, 7},
		{"", "a", 0, 0}, {"", "\x00", 0, 0}, {"", "a\x00", 0, 1}, {"", "b", 0, 1}, {"", "b\x00", 0, 4}, {"", "ba", 0, 4}, {"", "c", 0, 5}, {"", "d", 0, 6}, {"", "d\x00", 0, 7}, {"", "\xff", 0, 7},
		{"a", "a", 0, 0}, {"b", "b", 0, 0}, {"b", "b\x00", 1, 4}, {"b", "ba", 1, 4}, {"b", "c", 1, 5}, {"aa", "bz", 1, 5}, {"b", "a", 0, 0}, {"d", "a", 0, 0}, {"\xff", "\x00", 0, 0}, {"c", "b", 0, 0}, {"ba", "ba", 0, 0}, {"e", "f", 0, 0},
	} {
		for _, f := range filters() {
			if m, e := Between(Table{l, f}, c.from, c.to); e != api.OK || !slices.Equal(m, l[c.low:c.high]) {
				t.Errorf("P10.2: Between(%q, %q): %v, error %d; want %v", c.from, c.to, m, e, l[c.low:c.high])
			}
		}
	}
	if m, e := Between(Table{}, "", ""); len(m) != 0 || e != api.OK {
		t.Errorf("P10.2: Between of no versions: %v, error %d; want none", m, e)
	}
}

func TestRangeAndBetweenOfTablesThatOpenMade(t *testing.T) {
	for what, l := range lists() {
		x, e := Open(laid(l))
		if e != api.OK {
			t.Fatalf("P10.1: Open of %s: error %d", what, e)
		}
		keys := bounds(l)
		for i, from := range keys {
			for j, to := range keys {
				if len(keys) < 20 || (i+j)%5 == 0 || from == "" || to == "" {
					told(t, what, x, from, to)
				}
			}
		}
	}
}

func TestRangeAndBetweenOfTablesThatNoCallMade(t *testing.T) {
	for what, l := range unmade() {
		if len(l) > 4096 {
			// The model looks at each pair of versions.
			if m, e := Between(Table{Entries: l}, "", ""); e != api.OK || !slices.Equal(m, l) {
				t.Errorf("P10.2: Between of %s: %d versions, error %d", what, len(m), e)
			}
			if low, high, e := Range(Table{Entries: l}); low != l[0].Key || high != l[len(l)-1].Key || e != api.OK {
				t.Errorf("P10.2: Range of %s: %q, %q, error %d", what, low, high, e)
			}
			continue
		}
		for _, f := range filters() {
			for _, from := range bounds(l) {
				for _, to := range bounds(l) {
					told(t, what, Table{l, f}, from, to)
				}
			}
		}
	}
}

func TestOutOfOrderAtEachPlace(t *testing.T) {
	for n := 2; n < 36; n++ {
		for i := range n - 1 {
			l := many(n)
			l[i], l[i+1] = l[i+1], l[i]
			told(t, "two turned", Table{Entries: l}, "key", "")
			told(t, "one twice", Table{Entries: with(many(n), i+1, many(n)[i])}, "z", "a")
		}
	}
}
