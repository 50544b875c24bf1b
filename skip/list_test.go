package skip

import (
	"math"
	"math/rand"
	"slices"
	"strconv"
	"strings"
	"testing"

	"tickler/api"
)

// built: the list behind the puts, one by one.
func built(t *testing.T, l []high) State {
	t.Helper()
	s := New()
	for i, h := range l {
		var e api.Errno
		if s, e = Put(s, h.x, h.height); e != api.OK {
			t.Fatalf("P7.1: Put %d of %v, %d high: error %d", i, h.x, h.height, e)
		}
	}
	return s
}

// model: the version that Get should tell, found by looking at all.
func model(l []high, key string, seq int) (x api.Entry, ok bool) {
	for _, h := range l {
		if h.x.Key == key && h.x.Seq <= seq && (!ok || h.x.Seq > x.Seq) {
			x, ok = h.x, true
		}
	}
	return x, ok
}

// gotten fails unless Get tells what the model does.
func gotten(t *testing.T, s State, l []high, key string, seq int) {
	t.Helper()
	want, there := model(l, key, seq)
	if x, ok, e := Get(s, key, seq); x != want || ok != there || e != api.OK {
		t.Errorf("P7.2: Get(%q, %d) from %d nodes: %v, %t, error %d; want %v, %t", key, seq, len(l), x, ok, e, want, there)
	}
}

// P7.1 and P7.3: the chapter's example, and puts in any order

func TestExample(t *testing.T) {
	s := built(t, []high{{put("b", 1), 1}, {put("a", 2), 1}, {put("a", 1), 1}})
	l, e := All(s)
	if want := []api.Entry{put("a", 2), put("a", 1), put("b", 1)}; e != api.OK || !slices.Equal(l, want) {
		t.Errorf("P7.2: All: %v, error %d; want %v", l, e, want)
	}
	if want := []int{2, 0, 0, 0, 0, 0, 0, 0}; !slices.Equal(s.Head, want) {
		t.Errorf("P7.1: Head: %v; want %v", s.Head, want)
	}
	for k, want := range []Node{{put("b", 1), []int{0}}, {put("a", 2), []int{3}}, {put("a", 1), []int{1}}} {
		if n := s.Nodes[k]; n.Entry != want.Entry || !slices.Equal(n.Next, want.Next) {
			t.Errorf("P7.1: node %d: %v; want %v", k, n, want)
		}
	}
}

func TestWaysOnEachLevel(t *testing.T) {
	s := built(t, []high{{put("b", 1), 1}, {put("a", 2), 2}, {put("a", 1), 3}, {put("c", 1), 2}})
	want := State{
		Nodes: []Node{{put("b", 1), []int{4}}, {put("a", 2), []int{3, 3}}, {put("a", 1), []int{1, 4, 0}}, {put("c", 1), []int{0, 0}}},
		Head:  []int{2, 2, 3, 0, 0, 0, 0, 0},
	}
	if !same(s, want) {
		t.Errorf("P7.1: the ways: %v; want %v", s, want)
	}
}

func TestPutsOfEachList(t *testing.T) {
	for what, l := range lists() {
		for k := range len(l) + 1 {
			if s := built(t, l[:k]); !same(s, laid(l[:k])) {
				t.Errorf("P7.1: %d puts of %s: %v; want %v", k, what, s, laid(l[:k]))
			}
		}
	}
}

// turned calls visit with each order of l.
func turned(l []high, k int, visit func()) {
	if k == len(l) {
		visit()
		return
	}
	for i := k; i < len(l); i++ {
		l[k], l[i] = l[i], l[k]
		turned(l, k+1, visit)
		l[k], l[i] = l[i], l[k]
	}
}

func TestPutsInAnyOrder(t *testing.T) {
	l := []high{{put("a", 2), 1}, {gone("a", 1), 3}, {put("b", 7), 2}, {put("b", 3), 8}, {put("c", 3), 1}, {gone("d", 1), 2}}
	inOrder := versions(l)
	turned(l, 0, func() {
		s := built(t, l)
		if all, e := All(s); e != api.OK || !slices.Equal(all, inOrder) || !same(s, laid(l)) {
			t.Fatalf("P7.3: %v put: %v, error %d", l, all, e)
		}
	})
}

func TestPutsOfAnyHeights(t *testing.T) {
	heights := []int{1, 2, 3, 8}
	for mix := range 256 {
		l := []high{{put("b", 1), 0}, {put("a", 1), 0}, {put("c", 1), 0}, {put("a", 2), 0}}
		for i := range l {
			l[i].height = heights[mix>>(2*i)&3]
		}
		s := built(t, l)
		if all, e := All(s); e != api.OK || !slices.Equal(all, versions(l)) || !same(s, laid(l)) {
			t.Errorf("P7.3: %v put: %v, error %d", l, all, e)
		}
	}
}

func TestManyPuts(t *testing.T) {
	r := rand.New(rand.NewSource(7))
	for round := range 60 {
		var l []high
		s := New()
		for range 80 {
			h := high{put(strings.Repeat(string(rune('a'+r.Intn(3))), 1+r.Intn(2)), 1+r.Intn(12)), Height(r.Uint64() & r.Uint64())}
			_, twice := find(l, h.x)
			next, e := Put(s, h.x, h.height)
			if twice {
				if e != api.ErrTwice {
					t.Fatalf("P7.1: round %d: Put of %v twice: error %d", round, h.x, e)
				}
				continue
			}
			l = append(l, h)
			if e != api.OK || !same(next, laid(l)) {
				t.Fatalf("P7.3: round %d: behind %v, %d high: %v, error %d", round, h.x, h.height, next, e)
			}
			s = next
		}
	}
}

// find: is the Key and Seq of x among l, and where?
func find(l []high, x api.Entry) (int, bool) {
	i := slices.IndexFunc(l, func(h high) bool { return h.x.Key == x.Key && h.x.Seq == x.Seq })
	return i, i >= 0
}

func TestFullListByPuts(t *testing.T) {
	l := many(4096)
	s := built(t, l)
	if !same(s, laid(l)) {
		t.Error("P7.3: 4096 puts: not the list of these versions")
	}
	if all, e := All(s); e != api.OK || !slices.Equal(all, versions(l)) {
		t.Errorf("P7.3: All behind 4096 puts: %d, error %d", len(all), e)
	}
	if _, e := Put(s, put("a", 1), 1); e != api.ErrFull {
		t.Errorf("P7.1: Put of the 4097th: error %d", e)
	}
	for i := 0; i < 4096; i += 97 {
		gotten(t, s, l, l[i].x.Key, l[i].x.Seq)
		gotten(t, s, l, l[i].x.Key, l[i].x.Seq-1)
		gotten(t, s, l, l[i].x.Key+"x", 4096)
	}
}

// P7.2: Get

func TestGetOfAKeysVersions(t *testing.T) {
	l := []high{{put("b", 10), 1}, {put("b", 20), 3}, {gone("b", 30), 2}, {put("a", 15), 1}, {put("c", 5), 8}}
	s := built(t, l)
	for _, c := range []struct {
		key  string
		seq  int
		want int // the Seq that is told, 0: none
	}{
		{"b", 9, 0}, {"b", 10, 10}, {"b", 11, 10}, {"b", 19, 10}, {"b", 20, 20}, {"b", 29, 20}, {"b", 30, 30}, {"b", 31, 30}, {"b", 1 << 40, 30}, {"b", 1<<40 + 1, 30}, {"b", math.MaxInt, 30},
		{"b", 1, 0}, {"b", 0, 0}, {"b", -1, 0}, {"b", math.MinInt, 0},
		{"a", 14, 0}, {"a", 15, 15}, {"a", 16, 15}, {"c", 4, 0}, {"c", 5, 5}, {"c", math.MaxInt, 5}, {"c", 0, 0},
		{"", math.MaxInt, 0}, {"", 0, 0}, {"aa", 99, 0}, {"ba", 99, 0}, {"d", 99, 0}, {"A", 99, 0}, {strings.Repeat("b", 97), 99, 0},
	} {
		x, ok, e := Get(s, c.key, c.seq)
		want := api.Entry{}
		for _, h := range l {
			if h.x.Key == c.key && h.x.Seq == c.want {
				want = h.x
			}
		}
		if x != want || ok != (c.want != 0) || e != api.OK {
			t.Errorf("P7.2: Get(%q, %d): %v, %t, error %d; want Seq %d", c.key, c.seq, x, ok, e, c.want)
		}
	}
}

func TestGetFromNone(t *testing.T) {
	for _, key := range []string{"", "a", strings.Repeat("k", 200)} {
		for _, seq := range []int{math.MinInt, -1, 0, 1, 1 << 40, math.MaxInt} {
			gotten(t, New(), nil, key, seq)
		}
	}
}

func TestGetFromEachList(t *testing.T) {
	for _, l := range lists() {
		s := laid(l)
		for _, h := range l {
			for _, key := range []string{h.x.Key, h.x.Key + "\x00", h.x.Key[:len(h.x.Key)-1], h.x.Key[:len(h.x.Key)-1] + "\xff"} {
				for _, seq := range []int{h.x.Seq - 1, h.x.Seq, h.x.Seq + 1, 0, -h.x.Seq, math.MinInt, math.MaxInt} {
					gotten(t, s, l, key, seq)
				}
			}
		}
	}
}

// P7.2: All

func TestAllOfEachList(t *testing.T) {
	for what, l := range lists() {
		if got, e := All(laid(l)); e != api.OK || !slices.Equal(got, versions(l)) {
			t.Errorf("P7.2: All of %s: %v, error %d; want %v", what, got, e, versions(l))
		}
	}
}

// P7.2: Height

func TestHeight(t *testing.T) {
	for _, c := range []struct {
		draw uint64
		want int
	}{
		{0, 8}, {1, 1}, {2, 1}, {3, 1}, {4, 2}, {8, 2}, {12, 2}, {5, 1}, {16, 3}, {48, 3}, {17, 1}, {20, 2}, {64, 4}, {1 << 8, 5}, {1 << 10, 6}, {1 << 12, 7}, {1 << 13, 7}, {3 << 12, 7},
		{1 << 14, 8}, {1 << 15, 8}, {1 << 16, 8}, {1 << 63, 8}, {math.MaxUint64, 1}, {^uint64(3), 2}, {^uint64(1<<12 - 1), 7}, {^uint64(1<<14 - 1), 8}, {^uint64(1), 1},
	} {
		if got := Height(c.draw); got != c.want {
			t.Errorf("P7.2: Height(%#x): %d; want %d", c.draw, got, c.want)
		}
	}
}

func TestHeightOfEachLowDraw(t *testing.T) {
	for draw := range uint64(1 << 17) {
		// The pairs as digits, the lowest at the end: as many noughts as stand there.
		digits := strconv.FormatUint(draw|1<<40, 4)
		want := min(8, 1+len(digits)-len(strings.TrimRight(digits, "0")))
		if got := Height(draw); got != want {
			t.Fatalf("P7.2: Height(%#x): %d; want %d", draw, got, want)
		}
		// What stands above the pairs that count has no weight.
		if got := Height(draw | 0xfedc<<48); got != want {
			t.Fatalf("P7.2: Height(%#x): %d; want %d", draw|0xfedc<<48, got, want)
		}
	}
}
