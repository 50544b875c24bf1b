package block

import (
	"bytes"
	"fmt"
	"math"
	"slices"
	"strings"
	"testing"

	"tickler/api"
	"tickler/sum"
)

// checked fails unless Check answers that error, and Encode the same with nothing beside it.
func checked(t *testing.T, what string, l []api.Entry, want api.Errno) {
	t.Helper()
	if e := Check(l); e != want {
		t.Errorf("P9.1: Check of %s: error %d; want %d", what, e, want)
	}
	b, e := Encode(l)
	if e != want || want != api.OK && len(b) != 0 {
		t.Errorf("P9.1: Encode of %s: %d octets, error %d; want error %d", what, len(b), e, want)
	}
}

// wrong: versions that may not stand in a node, all but for one thing.
func wrong() map[string]api.Entry {
	return map[string]api.Entry{
		"no key":                        holds("", 5, "v"),
		"no key, gone":                  gone("", 5),
		"a key of 97 octets":            holds(strings.Repeat("m", 97), 5, "v"),
		"a key of 97 octets, gone":      gone(strings.Repeat("m", 97), 5),
		"a key of 1000 octets":          gone(strings.Repeat("m", 1000), 5),
		"Seq 0":                         holds("m", 0, "v"),
		"Seq -1":                        holds("m", -1, "v"),
		"the least Seq":                 gone("m", math.MinInt),
		"Seq 2^40 + 1":                  holds("m", 1<<40+1, "v"),
		"the greatest Seq":              gone("m", math.MaxInt),
		"Kind 0":                        {Key: "m", Seq: 5},
		"Kind 0 with a value":           {Key: "m", Seq: 5, Value: "v"},
		"Kind 3":                        {Key: "m", Seq: 5, Kind: 3},
		"Kind -1":                       {Key: "m", Seq: 5, Kind: -1},
		"Kind 257":                      {Key: "m", Seq: 5, Kind: 257, Value: "v"},
		"Kind 258":                      {Key: "m", Seq: 5, Kind: 258},
		"a value of 513 octets":         holds("m", 5, strings.Repeat("v", 513)),
		"a value of 70000 octets":       holds("m", 5, strings.Repeat("v", 70000)),
		"gone, with a value":            {Key: "m", Seq: 5, Kind: 2, Value: "v"},
		"gone, with a value of octet 0": {Key: "m", Seq: 5, Kind: 2, Value: "\x00"},
		"nothing at all":                {},
	}
}

// P9.1: Check

func TestHowManyVersionsMayStand(t *testing.T) {
	checked(t, "nil", nil, api.ErrCount)
	checked(t, "an empty list", []api.Entry{}, api.ErrCount)
	for n := 1; n <= 64; n++ {
		checked(t, fmt.Sprint(n, " versions"), many(n), api.OK)
	}
	for _, n := range []int{65, 66, 68, 100} {
		checked(t, fmt.Sprint(n, " versions"), many(n), api.ErrCount)
		checked(t, fmt.Sprint(n, " versions of one key"), oneKey(n), api.ErrCount)
	}
	checked(t, "100000 versions", make([]api.Entry, 100000), api.ErrCount)
}

func TestCheckOfWhatMayStand(t *testing.T) {
	for what, l := range lists() {
		checked(t, what, l, api.OK)
	}
}

func TestVersionsThatMayNotStand(t *testing.T) {
	for what, x := range wrong() {
		checked(t, what, []api.Entry{x}, api.ErrArg)
		for _, n := range []int{2, 5, 64} {
			for _, at := range []int{0, 1, n / 2, n - 1} {
				l := many(n)
				l[at] = x
				checked(t, fmt.Sprint(what, ", version ", at, " of ", n), l, api.ErrArg)
			}
		}
	}
}

func TestVersionsOutOfOrder(t *testing.T) {
	for what, pair := range map[string][2]api.Entry{
		"one version twice":                {put("m", 5), put("m", 5)},
		"one key and number, other value":  {put("m", 5), holds("m", 5, "x")},
		"one key and number, gone":         {put("m", 5), gone("m", 5)},
		"the lesser number first":          {put("m", 5), put("m", 6)},
		"the greater key first":            {put("m", 5), put("l", 5)},
		"the greater key first, by number": {put("m", 5), put("l", 9)},
		"the longer key first":             {put("ma", 5), put("m", 5)},
		"octet 80 ahead of 7f":             {put("\x80", 5), put("\x7f", 5)},
		"octet ff ahead of 00":             {put("\xff", 5), put("\x00", 5)},
	} {
		checked(t, what, pair[:], api.ErrOrder)
		checked(t, what+", behind others", []api.Entry{put("\x00", 9), put("\x00", 8), put("\x00", 7), pair[0], pair[1]}, api.ErrOrder)
		checked(t, what+", ahead of others", []api.Entry{pair[0], pair[1], put("\xff\xff", 9), put("\xff\xff", 8)}, api.ErrOrder)
		if pair[0].Key != pair[1].Key || pair[0].Seq != pair[1].Seq {
			checked(t, what+", the other way round", []api.Entry{pair[1], pair[0]}, api.OK)
		}
	}
	for _, n := range []int{2, 4, 5, 8, 9, 64} {
		for i := range n - 1 {
			l := many(n)
			l[i], l[i+1] = l[i+1], l[i]
			checked(t, fmt.Sprint("versions ", i, " and ", i+1, " of ", n, " turned"), l, api.ErrOrder)
			l = many(n)
			l[i+1] = l[i]
			checked(t, fmt.Sprint("version ", i, " of ", n, " twice"), l, api.ErrOrder)
		}
	}
}

func TestWhichErrorComesFirst(t *testing.T) {
	a, m, z := put("a", 5), put("m", 5), put("z", 5)
	for what, x := range wrong() {
		for _, c := range []struct {
			how  string
			l    []api.Entry
			want api.Errno
		}{
			{"out of order itself", []api.Entry{z, x}, api.ErrArg},
			{"and the next is out of order", []api.Entry{x, z, a}, api.ErrArg},
			{"twice", []api.Entry{x, x}, api.ErrArg},
			{"behind two out of order", []api.Entry{z, a, x}, api.ErrOrder},
			{"behind one twice", []api.Entry{m, m, x}, api.ErrOrder},
			{"and another ahead of it out of order", []api.Entry{a, z, m, x}, api.ErrOrder},
			{"in the midst, and the last out of order", []api.Entry{a, x, z, m}, api.ErrArg},
			{"one of 65", append(many(64), x), api.ErrCount},
			{"the first of 65", append([]api.Entry{x}, many(64)...), api.ErrCount},
			{"65 times", slices.Repeat([]api.Entry{x}, 65), api.ErrCount},
		} {
			checked(t, what+", "+c.how, c.l, c.want)
		}
	}
	checked(t, "65, one of them twice", append(many(64), many(64)[63]), api.ErrCount)
	checked(t, "65, turned", slices.Repeat([]api.Entry{z, a}, 33)[:65], api.ErrCount)
}

// P9.1: Encode

func TestEncodeByHand(t *testing.T) {
	for _, c := range []struct {
		what string
		l    []api.Entry
		bare string
	}{
		{"the example", example(), "\x00\x02\x02\x00\x01ab" + "\x02\x01\x01\x01\x01cv" + "\x00\x00" + "\x01"},
		{"one gone", []api.Entry{gone("k", 1)}, "\x00\x01\x01\x00\x02k" + "\x00\x00\x01"},
		{"one key", []api.Entry{holds("k", 300, "xy"), gone("k", 128), holds("k", 1, "")},
			"\x00\x01\x81\x2c\x02\x01kxy" + "\x01\x00\x80\x80\x00\x02" + "\x01\x00\x01\x00\x01" + "\x00\x00\x01"},
		{"five with much in common", []api.Entry{gone("aaa", 1), gone("aab", 1), gone("aabc", 1), gone("aac", 1), gone("aad", 1)},
			"\x00\x03\x01\x00\x02aaa" + "\x02\x01\x01\x00\x02b" + "\x03\x01\x01\x00\x02c" + "\x02\x01\x01\x00\x02c" + "\x00\x03\x01\x00\x02aad" + "\x00\x00\x00\x1a\x02"},
		{"one key five times", []api.Entry{gone("ab", 5), gone("ab", 4), gone("ab", 3), gone("ab", 2), gone("ab", 1)},
			"\x00\x02\x05\x00\x02ab" + "\x02\x00\x04\x00\x02" + "\x02\x00\x03\x00\x02" + "\x02\x00\x02\x00\x02" + "\x00\x02\x01\x00\x02ab" + "\x00\x00\x00\x16\x02"},
		{"nothing in common", []api.Entry{holds("a", 7, "1"), holds("b", 9, "2")}, "\x00\x01\x07\x01\x01a1" + "\x00\x01\x09\x01\x01b2" + "\x00\x00\x01"},
		{"the same octet behind another", []api.Entry{gone("axz", 1), gone("ayz", 1)}, "\x00\x03\x01\x00\x02axz" + "\x01\x02\x01\x00\x02yz" + "\x00\x00\x01"},
		{"the greatest number", []api.Entry{gone("a", 1<<40)}, "\x00\x01" + "\xf9\x00\x00\x00\x00\x00" + "\x00\x02a" + "\x00\x00\x01"},
	} {
		if b, e := Encode(c.l); e != api.OK || !bytes.Equal(b, sum.Guard([]byte(c.bare))) {
			t.Errorf("P9.1: Encode of %s: %x, error %d; want %x and its sum", c.what, b, e, c.bare)
		}
	}
}

func TestEncodeOfEachList(t *testing.T) {
	for what, l := range lists() {
		if b, e := Encode(l); e != api.OK || !bytes.Equal(b, laid(l)) {
			t.Errorf("P9.1: Encode of %s: %x, error %d; want %x", what, b, e, laid(l))
		}
	}
}

func TestWhereEachFourthOneBegins(t *testing.T) {
	for _, c := range []struct{ n, starts int }{{1, 1}, {3, 1}, {4, 1}, {5, 2}, {8, 2}, {9, 3}, {12, 3}, {13, 4}, {63, 16}, {64, 16}} {
		for what, l := range map[string][]api.Entry{"many": many(c.n), "one key": oneKey(c.n), "longest": longest(c.n), "widest": widest(c.n), "growing": growing(c.n)} {
			b, e := Encode(l)
			if e != api.OK {
				t.Fatalf("P9.1: Encode of %s, %d: error %d", what, c.n, e)
			}
			bare := b[:len(b)-4]
			if got := int(bare[len(bare)-1]); got != c.starts {
				t.Errorf("P9.1: Encode of %s, %d: %d are told to be each fourth one; want %d", what, c.n, got, c.starts)
			}
			tail := bare[len(bare)-1-2*c.starts:]
			for k := range c.starts {
				at := int(tail[2*k])<<8 | int(tail[2*k+1])
				x := l[4*k]
				want := rowOf(x, 0).octets()
				if at+len(want) > len(bare) || !bytes.Equal(bare[at:at+len(want)], want) {
					t.Errorf("P9.1: Encode of %s, %d: version %d does not begin whole at %d", what, c.n, 4*k, at)
				}
			}
		}
	}
}

func TestHowManyOctetsTheGreatestBlockHas(t *testing.T) {
	b, e := Encode(widest(64))
	// A version: 0, 96, a number of six octets, 512 in two, its kind, the key and the value; so that no version begins beyond 2^16.
	if want := 64*(1+1+6+2+1+96+512) + 2*16 + 1 + 4; e != api.OK || len(b) != want {
		t.Errorf("P9.1: Encode of 64 versions at their longest: %d octets, error %d; want %d", len(b), e, want)
	}
}

// P9.1: Seek

// sought fails unless Seek tells what the model does.
func sought(t *testing.T, b []byte, l []api.Entry, key string, seq int) {
	t.Helper()
	want, there := modelSeek(l, key, seq)
	if x, ok, e := Seek(b, key, seq); x != want || ok != there || e != api.OK {
		t.Errorf("P9.1: Seek(%.20q, %d) among %d: %v, %t, error %d; want %v, %t", key, seq, len(l), x, ok, e, want, there)
	}
}

func TestSeekOfAKeysVersions(t *testing.T) {
	l := []api.Entry{put("a", 15), gone("b", 30), put("b", 20), holds("b", 10, ""), put("c", 5)}
	b := laid(l)
	for _, c := range []struct {
		key  string
		seq  int
		want int // the Seq that is told, 0: none
	}{
		{"b", 9, 0}, {"b", 10, 10}, {"b", 11, 10}, {"b", 19, 10}, {"b", 20, 20}, {"b", 29, 20}, {"b", 30, 30}, {"b", 31, 30},
		{"b", 1 << 40, 30}, {"b", 1<<40 + 1, 30}, {"b", math.MaxInt, 30}, {"b", 1, 0}, {"b", 0, 0}, {"b", -1, 0}, {"b", math.MinInt, 0},
		{"a", 14, 0}, {"a", 15, 15}, {"a", 16, 15}, {"c", 4, 0}, {"c", 5, 5}, {"c", math.MaxInt, 5}, {"c", 0, 0},
		{"", math.MaxInt, 0}, {"", 0, 0}, {"aa", 99, 0}, {"ba", 99, 0}, {"d", 99, 0}, {"A", 99, 0}, {"B", 99, 0}, {strings.Repeat("b", 97), 99, 0},
	} {
		i := slices.IndexFunc(l, func(x api.Entry) bool { return x.Key == c.key && x.Seq == c.want })
		want := api.Entry{}
		if i >= 0 {
			want = l[i]
		}
		if x, ok, e := Seek(b, c.key, c.seq); x != want || ok != (i >= 0) || e != api.OK {
			t.Errorf("P9.1: Seek(%q, %d): %v, %t, error %d; want Seq %d", c.key, c.seq, x, ok, e, c.want)
		}
	}
}

func TestSeekInEachList(t *testing.T) {
	for _, l := range lists() {
		b := laid(l)
		for i, x := range l {
			if len(l) > 20 && len(b) > 10000 && i%9 != 0 {
				continue
			}
			for _, seq := range []int{x.Seq, x.Seq - 1, x.Seq + 1} {
				sought(t, b, l, x.Key, seq)
			}
			for _, key := range []string{x.Key + "\x00", x.Key[1:], x.Key[:len(x.Key)-1], "x" + x.Key} {
				sought(t, b, l, key, x.Seq)
			}
		}
		for _, seq := range []int{math.MinInt, -1, 0, 1, 1 << 40, math.MaxInt} {
			sought(t, b, l, l[0].Key, seq)
			sought(t, b, l, l[len(l)-1].Key, seq)
			sought(t, b, l, "", seq)
			sought(t, b, l, strings.Repeat("\xff", 200), seq)
		}
	}
}
