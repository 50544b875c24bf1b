package pick

import (
	"fmt"
	"math"
	"slices"
	"testing"

	"tickler/api"
	"tickler/edit"
)

// P12.1: Touch

// touchIs fails unless Touch tells these IDs.
func touchIs(t *testing.T, what string, v edit.Version, level int, low, high string, want ...int) {
	t.Helper()
	if l, e := Touch(v, level, low, high); e != api.OK || !slices.Equal(l, want) {
		t.Errorf("P12.1: Touch, %s, level %d from %q to %q: %v, error %d; want %v", what, level, low, high, l, e, want)
	}
}

// A table with the keys from f to m, on each level, with others that are far away.
func TestTouchOfOne(t *testing.T) {
	for level := range 4 {
		v := of(table(1, level, "f", "m"))
		for other := range 4 {
			if other != level {
				v.Tables = append(v.Tables, table(10+other, other, "f", "m"))
			}
		}
		slices.SortFunc(v.Tables, func(a, b edit.Meta) int { return a.Level - b.Level })
		for _, c := range []struct {
			low, high string
			touched   bool
		}{
			{"a", "e", false}, {"a", "e\xff", false}, {"a", "f", true}, {"a", "f\x00", true}, {"a", "h", true}, {"a", "m", true}, {"a", "z", true},
			{"e\xff", "e\xff", false}, {"e\xff", "f", true}, {"f", "f", true}, {"f", "f\x00", true}, {"f", "m", true}, {"f", "z", true},
			{"f\x00", "f\x00", true}, {"h", "i", true}, {"h", "h", true}, {"f\x00", "l\xff", true}, {"h", "z", true},
			{"l\xff", "l\xff", true}, {"l\xff", "m", true}, {"m", "m", true}, {"m", "m\x00", true}, {"m", "z", true},
			{"m\x00", "m\x00", false}, {"m\x00", "z", false}, {"n", "z", false},
			{"\x00", "\xff", true}, {"\x00", "\x7f", true}, {"\x80", "\xff", false},
		} {
			var want []int
			if c.touched {
				want = []int{1}
			}
			touchIs(t, "f to m", v, level, c.low, c.high, want...)
		}
	}
}

// Low above high touches nothing, not even a table that both lie in.
func TestTouchOfLowAboveHigh(t *testing.T) {
	for level := range 4 {
		v := of(table(2, level, "a", "z"))
		touchIs(t, "the other way round", v, level, "b", "y", 2)
		for _, c := range [][2]string{{"y", "b"}, {"z", "a"}, {"b\x00", "b"}, {"\xff", "\x00"}, {"\x80", "\x7f"}, {"ba", "b"}, {"b", ""}, {"a", ""}} {
			touchIs(t, "low above high", v, level, c[0], c[1])
		}
	}
}

func TestTouchOfTexts(t *testing.T) {
	for level := range 4 {
		v := of(table(2, level, "a", "k"))
		touchIs(t, "no low", v, level, "", "b", 2)
		touchIs(t, "no low, high just there", v, level, "", "a", 2)
		touchIs(t, "no low, high ahead", v, level, "", "Z")
		touchIs(t, "neither", v, level, "", "")
		touchIs(t, "no high", v, level, "a", "")
		touchIs(t, "high of 97", v, level, "b", long(97), 2)
		touchIs(t, "low of 97 is behind", v, level, long(97), "z")
		touchIs(t, "low of 97 is within", v, level, "a"+long(96), "z", 2)
		touchIs(t, "high of 97 is ahead", v, level, "", "Z"+long(96))
		touchIs(t, "high of 1000", v, level, "", "a"+long(999), 2)
		touchIs(t, "low of 70000 is behind", v, level, long(70000), long(70001))
		w := of(table(2, level, long(95), long(96)))
		touchIs(t, "one of 96", w, level, long(96), long(97), 2)
		touchIs(t, "just behind one of 96", w, level, long(97), long(98))
		touchIs(t, "just ahead of one of 95", w, level, long(1), long(94))
		touchIs(t, "one of 95", w, level, long(1), long(95), 2)
	}
	v := of(table(2, 1, "\x00", "\x00"))
	touchIs(t, "the least key", v, 1, "", "\x00", 2)
	touchIs(t, "no text is below the least key", v, 1, "", "")
}

func TestTouchOfLevelsThatAreNone(t *testing.T) {
	for _, level := range []int{math.MinInt, -1 << 32, -4, -1, 4, 5, 256, 1 << 32, 1<<32 + 1, math.MaxInt} {
		for what, v := range versions() {
			touchIs(t, what, v, level, "\x00", "\xff")
			touchIs(t, what, v, level, "", "\xff")
			touchIs(t, what, v, level, "b", "a")
		}
	}
}

func TestTouchOfNoTables(t *testing.T) {
	for level := range 4 {
		touchIs(t, "new", edit.New(), level, "\x00", "\xff")
		touchIs(t, "an empty list", edit.Version{Tables: []edit.Meta{}, Next: 1}, level, "a", "b")
	}
}

// On level 0 the greater ID comes first, on the others the lower Low.
func TestTouchInOrder(t *testing.T) {
	v := of(table(30, 0, "p", "q"), table(20, 0, "a", "z"), table(12, 0, "d", "d"), table(4, 0, "b", "c"), table(1, 0, "c", "e"))
	touchIs(t, "all", v, 0, "a", "z", 30, 20, 12, 4, 1)
	touchIs(t, "c", v, 0, "c", "c", 20, 4, 1)
	touchIs(t, "d", v, 0, "d", "d", 20, 12, 1)
	touchIs(t, "d to p", v, 0, "d", "p", 30, 20, 12, 1)
	touchIs(t, "q", v, 0, "q", "r", 30, 20)
	touchIs(t, "none on level 1", v, 1, "a", "z")
	for level := 1; level < 4; level++ {
		v := of(table(7, level, "a", "b"), table(3, level, "c", "c"), table(9, level, "d", "f"), table(1, level, "g", "i"), table(5, level, "k", "l"))
		touchIs(t, "all", v, level, "\x00", "\xff", 7, 3, 9, 1, 5)
		touchIs(t, "b to g", v, level, "b", "g", 7, 3, 9, 1)
		touchIs(t, "above b to below g", v, level, "b\x00", "f\xff", 3, 9)
		touchIs(t, "between two", v, level, "j", "j")
		touchIs(t, "the last two", v, level, "i", "k", 1, 5)
		touchIs(t, "none on level 0", v, 0, "a", "z")
	}
}

// Counts and what is full are nothing to Touch.
func TestTouchOfMany(t *testing.T) {
	for level := range 4 {
		v := of(row(1, level, shared(4096*256, 256)...)...)
		var all []int
		for _, m := range v.Tables {
			all = append(all, m.ID)
		}
		touchIs(t, "256", v, level, "000", "255", all...)
		middle := []int{101, 102, 103}
		if level == 0 {
			slices.Reverse(middle)
		}
		touchIs(t, "three of 256", v, level, "100z", "102", middle...)
	}
}

// All spans of few texts, of tables on each level that go from each of them to each.
func TestTouchOfAllSpans(t *testing.T) {
	texts := []string{"", "\x00", "a", "a\x00", "aa", "b", "\x7f", "\x80", "\xff", "\xff\xff", "\xff" + long(96)}
	for _, from := range texts {
		for _, to := range texts {
			for level := range 4 {
				v := of(table(5, level, from, to))
				for _, low := range texts {
					for _, high := range texts {
						touches(t, fmt.Sprintf("from %q to %q", from, to), v, level, low, high)
					}
				}
			}
		}
	}
}
