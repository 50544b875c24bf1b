package table

import (
	"bytes"
	"fmt"
	"maps"
	"math"
	"slices"
	"strings"
	"testing"

	"tickler/api"
	"tickler/bloom"
	"tickler/sum"
)

// built fails unless Build answers that error with nothing beside it, or the table that is laid by hand, which Open takes.
func built(t *testing.T, what string, l []api.Entry, want api.Errno) {
	t.Helper()
	b, e := Build(l)
	if e != want || want != api.OK && len(b) != 0 {
		t.Errorf("P10.1: Build of %s: %d octets, error %d; want error %d", what, len(b), e, want)
		return
	}
	if want != api.OK {
		return
	}
	if !bytes.Equal(b, laid(l)) {
		t.Errorf("P10.1: Build of %s: %d octets that are not those that the chapter says", what, len(b))
	}
	if x, e := Open(b); e != api.OK || !slices.Equal(x.Entries, l) {
		t.Errorf("P10.3: Open of Build of %s: %d versions, error %d; want the %d", what, len(x.Entries), e, len(l))
	}
}

// wrong: versions that may not stand in a node, all but for one thing.
func wrong() map[string]api.Entry {
	return map[string]api.Entry{
		"no key":                 holds("", 5, "v"),
		"a key of 97 octets":     holds(strings.Repeat("m", 97), 5, "v"),
		"a key of 1000 octets":   gone(strings.Repeat("m", 1000), 5),
		"Seq 0":                  holds("m", 0, "v"),
		"the least Seq":          gone("m", math.MinInt),
		"Seq 2^40 + 1":           holds("m", 1<<40+1, "v"),
		"the greatest Seq":       gone("m", math.MaxInt),
		"Kind 0":                 {Key: "m", Seq: 5},
		"Kind 3":                 {Key: "m", Seq: 5, Kind: 3},
		"Kind -1":                {Key: "m", Seq: 5, Kind: -1},
		"Kind 257":               {Key: "m", Seq: 5, Kind: 257, Value: "v"},
		"a value of 513 octets":  holds("m", 5, strings.Repeat("v", 513)),
		"a value of 2^16 octets": holds("m", 5, strings.Repeat("v", 1<<16)),
		"gone, with a value":     {Key: "m", Seq: 5, Kind: 2, Value: "v"},
		"nothing at all":         {},
	}
}

// with: l with x in the place of version at.
func with(l []api.Entry, at int, x api.Entry) []api.Entry {
	c := slices.Clone(l)
	c[at] = x
	return c
}

// P10.1: which versions Build takes

func TestHowManyVersionsMayStand(t *testing.T) {
	built(t, "nil", nil, api.ErrCount)
	built(t, "an empty list", []api.Entry{}, api.ErrCount)
	for n := 1; n <= 70; n++ {
		built(t, fmt.Sprint(n, " versions"), many(n), api.OK)
	}
	for _, n := range []int{4080, 4081, 4095, 4096} {
		built(t, fmt.Sprint(n, " versions"), many(n), api.OK)
	}
	for _, n := range []int{4097, 4098, 4112, 5000, 8192} {
		built(t, fmt.Sprint(n, " versions"), many(n), api.ErrCount)
		built(t, fmt.Sprint(n, " versions of one key"), oneKey(n), api.ErrCount)
	}
	built(t, "2^20 versions", make([]api.Entry, 1<<20), api.ErrCount)
}

func TestVersionsThatMayNotStand(t *testing.T) {
	for what, x := range wrong() {
		built(t, what, []api.Entry{x}, api.ErrArg)
		for _, n := range []int{2, 15, 16, 17, 32, 33, 65} {
			for _, at := range []int{0, 1, n / 2, n - 2, n - 1, 15 % n, 16 % n, 31 % n, 32 % n, 63 % n, 64 % n} {
				built(t, fmt.Sprint(what, ", version ", at, " of ", n), with(many(n), at, x), api.ErrArg)
			}
		}
		for _, at := range []int{0, 2000, 4095} {
			built(t, fmt.Sprint(what, ", version ", at, " of 4096"), with(apiece(4096), at, x), api.ErrArg)
		}
	}
}

func TestVersionsOutOfOrder(t *testing.T) {
	for what, pair := range map[string][2]api.Entry{
		"one version twice":               {put("m", 5), put("m", 5)},
		"one key and number, other value": {put("m", 5), holds("m", 5, "x")},
		"one key and number, gone":        {put("m", 5), gone("m", 5)},
		"the lesser number first":         {put("m", 5), put("m", 6)},
		"the greater key first":           {put("m", 5), put("l", 5)},
		"the longer key first":            {put("ma", 5), put("m", 5)},
		"octet 80 ahead of 7f":            {put("\x80", 5), put("\x7f", 5)},
	} {
		built(t, what, pair[:], api.ErrOrder)
		// Behind as many, from none on, the two stand within a block, or one ends with the first of them.
		for n := range 67 {
			ahead := slices.Repeat([]api.Entry{{}}, n)
			for i := range ahead {
				ahead[i] = put("\x01", 1000-i)
			}
			l := append(ahead, pair[:]...)
			built(t, fmt.Sprint(what, ", behind ", n), l, api.ErrOrder)
			built(t, fmt.Sprint(what, ", between ", n, " and 20"), append(l, many(20)...), api.ErrOrder)
			l[n], l[n+1] = l[n+1], l[n]
			if pair[0].Key != pair[1].Key || pair[0].Seq != pair[1].Seq {
				built(t, fmt.Sprint(what, ", the other way round, behind ", n), l, api.OK)
			}
		}
	}
}

func TestNeighboursTurnedOrTwice(t *testing.T) {
	for _, n := range []int{2, 15, 16, 17, 32, 33, 66} {
		for i := range n - 1 {
			l := many(n)
			l[i], l[i+1] = l[i+1], l[i]
			built(t, fmt.Sprint("versions ", i, " and ", i+1, " of ", n, " turned"), l, api.ErrOrder)
			built(t, fmt.Sprint("version ", i, " of ", n, " twice"), with(many(n), i+1, many(n)[i]), api.ErrOrder)
		}
	}
	for _, i := range []int{15, 2047, 4079, 4094} {
		built(t, fmt.Sprint("version ", i, " of 4096 twice"), with(many(4096), i+1, many(4096)[i]), api.ErrOrder)
	}
}

func TestWhichErrorComesFirst(t *testing.T) {
	l := many(40)
	for what, x := range wrong() {
		for _, at := range []int{1, 7, 15, 16, 17, 31, 32, 38} {
			name := fmt.Sprint(what, ", version ", at)
			both := with(l, at, x)
			built(t, name+", and the last twice", with(both, 39, both[38]), api.ErrArg)
			if at > 1 {
				built(t, name+", and the first twice", with(both, 1, both[0]), api.ErrOrder)
				built(t, name+", and the one ahead of it out of order", with(both, at-1, put("a", 1)), api.ErrOrder)
			}
			built(t, name+", twice", with(both, at+1, x), api.ErrArg)
		}
		built(t, what+", ahead of a block that is out of order", slices.Concat(l[:15], []api.Entry{x}, l[:16]), api.ErrArg)
		built(t, what+", the first of a block that is out of order", slices.Concat(l[:16], []api.Entry{x, l[1], l[0]}), api.ErrArg)
		built(t, what+", behind a block that is out of order", slices.Concat(l[:15], l[:1], []api.Entry{x}), api.ErrOrder)
		built(t, what+", in a block behind one that begins out of order", slices.Concat(l[1:17], l[:1], []api.Entry{x}), api.ErrOrder)
		built(t, what+", one of 4097", append(many(4096), x), api.ErrCount)
		built(t, what+", the first of 4097", append([]api.Entry{x}, many(4096)...), api.ErrCount)
		built(t, what+", 4097 times", slices.Repeat([]api.Entry{x}, 4097), api.ErrCount)
	}
	built(t, "4097, one of them twice", append(many(4096), many(4096)[4095]), api.ErrCount)
	built(t, "4097, turned", slices.Repeat([]api.Entry{put("z", 1), put("a", 1)}, 2049)[:4097], api.ErrCount)
}

// P10.1: the octets

func TestTheExample(t *testing.T) {
	b, e := Build([]api.Entry{holds("ab", 2, "v")})
	f, _ := bloom.Make([]string{"ab"}, 10)
	want := slices.Concat(
		sum.Guard([]byte("\x00\x02\x02\x01\x01abv"+"\x00\x00"+"\x01")),
		sum.Guard([]byte("\x04\x02"+"\x0f\x02ab")),
		sum.Guard([]byte{3, 3, 7, f.Bits[0], f.Bits[1]}),
		sum.Guard([]byte("tktb"+"\x00\x00\x00\x0f"+"\x00\x00\x00\x19"+"\x00\x00\x00\x01")),
	)
	if e != api.OK || !bytes.Equal(b, want) {
		t.Errorf("P10.1: Build of one version: %x, error %d; want %x", b, e, want)
	}
}

func TestBuildOfEachList(t *testing.T) {
	for what, l := range lists() {
		built(t, what, l, api.OK)
	}
	for what, l := range great() {
		built(t, what, l, api.OK)
	}
}

func TestBlocksOfSixteen(t *testing.T) {
	for _, c := range []struct{ n, last int }{{1, 1}, {15, 15}, {16, 16}, {17, 1}, {32, 16}, {33, 1}, {47, 15}, {4096, 16}, {4095, 15}} {
		for what, l := range map[string][]api.Entry{"many": many(c.n), "apiece": apiece(c.n), "one key": oneKey(c.n)} {
			b, _ := Build(l)
			for at := 0; at < c.n; at += 16 {
				part := l[at:]
				if len(part) > 16 {
					part = part[:16]
				} else if len(part) != c.last {
					t.Fatalf("the test itself: %d left of %d", len(part), c.n)
				}
				x := blockOf(part)
				if !bytes.HasPrefix(b, x) {
					t.Fatalf("P10.1: Build of %s, %d: no block of versions %d to %d", what, c.n, at, at+len(part)-1)
				}
				b = b[len(x):]
			}
		}
	}
}

func TestHowManyOctetsTheGreatestTableHas(t *testing.T) {
	b, e := Build(widest(4096))
	whole := 256 * (4 + 1 + 4*2) // sums, counts and starts of the blocks
	for i := range 4096 {
		common := 0
		if i%4 > 0 {
			common = 1
		}
		whole += 1 + 1 + 6 + 2 + 1 + 96 - common + 512
	}
	index := 3 + 1 + 256*(2+1+96) + 4
	filter := 2 + 1 + 1 + 5120 + 4
	if e != api.OK || len(b) != whole+index+filter+20 {
		t.Errorf("P10.1: Build of 4096 versions at their longest: %d octets, error %d; want %d", len(b), e, whole+index+filter+20)
	}
}

// P10.1: Get

// got fails unless Get tells what the model does.
func got(t *testing.T, b []byte, l []api.Entry, key string, seq int) {
	t.Helper()
	want, there := modelGet(l, key, seq)
	if x, ok, e := Get(b, key, seq); x != want || ok != there || e != api.OK {
		t.Errorf("P10.1: Get(%.20q, %d) among %d: %v, %t, error %d; want %v, %t", key, seq, len(l), x, ok, e, want, there)
	}
}

func TestGetOfAKeysVersions(t *testing.T) {
	var l []api.Entry
	for i := range 14 {
		l = append(l, put("a", 115-i))
	}
	l = append(l, gone("b", 30), put("b", 20), holds("b", 10, ""), put("c", 5))
	b := laid(l)
	for _, c := range []struct {
		key  string
		seq  int
		want int // the Seq that is told, 0: none
	}{
		{"b", 9, 0}, {"b", 10, 10}, {"b", 11, 10}, {"b", 19, 10}, {"b", 20, 20}, {"b", 29, 20}, {"b", 30, 30}, {"b", 31, 30},
		{"b", 1 << 40, 30}, {"b", 1<<40 + 1, 30}, {"b", math.MaxInt, 30}, {"b", 1, 0}, {"b", 0, 0}, {"b", -1, 0}, {"b", math.MinInt, 0},
		{"a", 101, 0}, {"a", 102, 102}, {"a", 115, 115}, {"a", 116, 115}, {"c", 4, 0}, {"c", 5, 5}, {"c", math.MaxInt, 5}, {"c", 0, 0},
		{"", math.MaxInt, 0}, {"", 0, 0}, {"aa", 99, 0}, {"ba", 99, 0}, {"d", 99, 0}, {"A", 99, 0}, {"B", 99, 0}, {strings.Repeat("b", 97), 99, 0},
	} {
		i := slices.IndexFunc(l, func(x api.Entry) bool { return x.Key == c.key && x.Seq == c.want })
		want := api.Entry{}
		if i >= 0 {
			want = l[i]
		}
		if x, ok, e := Get(b, c.key, c.seq); x != want || ok != (i >= 0) || e != api.OK {
			t.Errorf("P10.1: Get(%q, %d): %v, %t, error %d; want Seq %d", c.key, c.seq, x, ok, e, c.want)
		}
	}
}

func TestGetInEachList(t *testing.T) {
	for _, l := range lists() {
		b := laid(l)
		for i, x := range l {
			if len(l) > 20 && i%16 > 0 && i%16 < 15 && i%13 > 0 {
				continue
			}
			for _, seq := range []int{x.Seq, x.Seq - 1, x.Seq + 1} {
				got(t, b, l, x.Key, seq)
			}
			if i%16 == 0 {
				for _, key := range []string{x.Key + "\x00", x.Key[1:], x.Key[:len(x.Key)-1], "x" + x.Key} {
					got(t, b, l, key, x.Seq)
				}
			}
		}
		for _, seq := range []int{math.MinInt, -1, 0, 1, 1 << 40, math.MaxInt} {
			got(t, b, l, l[0].Key, seq)
			got(t, b, l, l[len(l)-1].Key, seq)
			got(t, b, l, "", seq)
			got(t, b, l, strings.Repeat("\xff", 200), seq)
		}
	}
	l := many(4096)
	b := laid(l)
	for _, i := range []int{0, 15, 16, 2048, 4095} {
		got(t, b, l, l[i].Key, l[i].Seq)
		got(t, b, l, l[i].Key, l[i].Seq-1)
		got(t, b, l, l[i].Key+"x", l[i].Seq)
	}
}

// P10.4

func TestEachKeyIsInTheFilter(t *testing.T) {
	all := lists()
	maps.Copy(all, great())
	for what, l := range all {
		x, e := Open(laid(l))
		if e != api.OK {
			t.Fatalf("P10.1: Open of %s: error %d", what, e)
		}
		for _, y := range l {
			if ok, e := bloom.Has(x.Filter, y.Key); !ok || e != api.OK {
				t.Fatalf("P10.4: %s: %q is not in the filter, error %d", what, y.Key, e)
			}
		}
		want := bitsOf(uniques(l))
		if x.Filter.K != 7 || !bytes.Equal(x.Filter.Bits, want[1:]) {
			t.Errorf("P10.1: Open of %s: a filter that is not that of its keys, each once", what)
		}
	}
}
