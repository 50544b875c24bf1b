package db

import (
	"fmt"
	"maps"
	"math/rand"
	"slices"
	"strings"
	"testing"

	"tickler/api"
	"tickler/files"
)

// told is what a store tells at its Seq.
type told struct {
	seq   int
	pairs []api.Pair
}

// toldBy: what s tells.
func toldBy(t *testing.T, s State) told {
	t.Helper()
	l, e := Scan(s, "", "", s.Seq)
	if e != api.OK {
		t.Fatalf("P15.6: Scan: error %d", e)
	}
	return told{s.Seq, l}
}

func (a told) is(b told) bool {
	return a.seq == b.seq && slices.Equal(a.pairs, b.pairs)
}

// keeps: of each file as little and as much as a crash may keep, of one file some numbers of octets (all, if they are few), and drawn ones.
func keeps(f files.State, r *rand.Rand) [][]int {
	l := [][]int{nil, slices.Repeat([]int{1 << 30}, len(f.Files))}
	for i, x := range f.Files {
		loose := len(x.Data) - x.Synced
		for n := 1; n <= loose; n += loose/40 + 1 {
			keep := make([]int, len(f.Files))
			keep[i] = n
			l = append(l, keep)
		}
		if loose > 1 {
			keep := make([]int, len(f.Files))
			keep[i] = loose - 1
			l = append(l, keep)
		}
	}
	for range 2 {
		keep := make([]int, len(f.Files))
		for i, x := range f.Files {
			keep[i] = r.Intn(len(x.Data)-x.Synced+1) - 1
		}
		l = append(l, keep)
	}
	return l
}

// crashed fails the test if files that may be can not crash.
func crashed(t *testing.T, f files.State, keep []int) files.State {
	t.Helper()
	left, e := files.Crash(f, keep)
	if e != api.OK {
		t.Fatalf("P15.6: a crash: error %d", e)
	}
	return left
}

// upTo: the files behind the first n acts.
func upTo(t *testing.T, f files.State, l []api.Act, n int) files.State {
	t.Helper()
	return done(t, f, l[:n])
}

// oldOrNew does the acts one by one, and lets the disk crash ahead of each and behind the last, in many ways; Open then tells was or will, and behind all acts will. So it does if Open is cut off by a crash as well. It answers how often it was either.
func oldOrNew(t *testing.T, what string, f files.State, l []api.Act, was, will told) (olds, news int) {
	t.Helper()
	r := rand.New(rand.NewSource(156))
	for i := range len(l) + 1 {
		between := upTo(t, f, l, i)
		for k, keep := range keeps(between, r) {
			left := crashed(t, between, keep)
			s, acts, e := Open(left)
			if e != api.OK {
				t.Fatalf("P15.6: %s, a crash behind %d of %d acts that keeps %v: Open: error %d", what, i, len(l), keep, e)
			}
			sound(t, what, s)
			got := toldBy(t, s)
			switch {
			case got.is(will):
				news++
			case got.is(was) && i < len(l):
				olds++
			default:
				t.Errorf("P15.6: %s, a crash behind %d of %d acts that keeps %v: Open tells %s; it was %s, it will be %s", what, i, len(l), keep, brief(got), brief(was), brief(will))
			}
			if k < 2 || k == 7 {
				openedAgain(t, fmt.Sprint(what, ", cut off behind ", i), left, acts, got)
			}
		}
	}
	return olds, news
}

// openedAgain does the acts of Open one by one, and lets the disk crash ahead of each and behind the last: Open then tells the same.
func openedAgain(t *testing.T, what string, f files.State, l []api.Act, want told) {
	t.Helper()
	for i := range len(l) + 1 {
		between := upTo(t, f, l, i)
		loose := slices.Repeat([]int{1 << 30}, len(between.Files))
		for _, left := range []files.State{crashed(t, between, nil), crashed(t, between, loose), between} {
			s, _, e := Open(left)
			if e != api.OK {
				t.Fatalf("P15.6: %s, and Open cut off behind %d of %d acts: error %d", what, i, len(l), e)
			}
			if got := toldBy(t, s); !got.is(want) {
				t.Errorf("P15.6: %s, and Open cut off behind %d of %d acts: Open tells %s, want %s", what, i, len(l), brief(got), brief(want))
			}
		}
	}
}

// writer is a call that answers a store.
type writer func(s State) (State, []api.Act, api.Errno)

// cutOff fails unless a crash anywhere within the call leaves what was ahead of it or behind it; both must come, if they differ.
func cutOff(t *testing.T, what string, s State, do writer) {
	t.Helper()
	next, l, e := do(s)
	if e != api.OK {
		t.Fatalf("P15.6: %s: error %d", what, e)
	}
	was, will := toldBy(t, s), toldBy(t, next)
	olds, news := oldOrNew(t, what, s.Files, l, was, will)
	if news == 0 || olds == 0 && !was.is(will) {
		t.Errorf("P15.6: %s: %d times old, %d times new: both must come", what, olds, news)
	}
	// Without a crash, too: the files between two acts can be opened, and that can be cut off.
	for i := range len(l) + 1 {
		between := upTo(t, s.Files, l, i)
		live, acts, e := Open(between)
		if e != api.OK {
			t.Fatalf("P15.6: %s: Open behind %d of %d acts: error %d", what, i, len(l), e)
		}
		got := toldBy(t, live)
		if !got.is(was) && !got.is(will) {
			t.Errorf("P15.6: %s: Open behind %d of %d acts tells %s; it was %s, it will be %s", what, i, len(l), brief(got), brief(was), brief(will))
		}
		for k := range len(acts) + 1 {
			left := crashed(t, upTo(t, between, acts, k), nil)
			again := toldBy(t, opened(t, left))
			if !again.is(got) && (k == len(acts) || !again.is(was)) {
				t.Errorf("P15.6: %s: Open behind %d of %d acts, cut off behind %d of %d: Open tells %s, want %s", what, i, len(l), k, len(acts), brief(again), brief(got))
			}
		}
	}
}

// P15.6

func TestACrashWithinWrite(t *testing.T) {
	empty := opened(t, disk())
	cutOff(t, "the first Write", empty, write([]api.Change{set("a", "x")}))
	s := written(t, empty, set("a", "x"), set("b", "y"))
	cutOff(t, "a Write", s, write([]api.Change{gone("a"), set("c", "z")}, 4, 0))
	cutOff(t, "a long Write", s, write(some(64), 4, 0))
	cutOff(t, "a Write behind a flush", flushed(t, s), write([]api.Change{gone("a")}))
	cutOff(t, "a Write beside tables", ground(), write([]api.Change{set("b", "new"), gone("k0001")}))
}

func TestACrashWithinFlush(t *testing.T) {
	s := written(t, opened(t, disk()), set("a", "x"), set("b", "y"))
	cutOff(t, "the first Flush", s, flush)
	s = written(t, flushed(t, s), gone("a"), set("b", "new"))
	cutOff(t, "a Flush", s, flush)
	cutOff(t, "a Flush with a snapshot", written(t, snapped(t, s), some(64)...), flush)
	cutOff(t, "a Flush beside tables", ground(), flush)
	over := ground()
	over.Files = done(t, over.Files, []api.Act{{What: 1, Name: "t3"}, {What: 2, Name: "t3", Data: []byte("waste")}, {What: 1, Name: "l9"}, {What: 6}})
	cutOff(t, "a Flush over a file", over, flush)
}

func TestACrashWithinCompact(t *testing.T) {
	s := opened(t, disk())
	for i := range 4 {
		s = flushed(t, written(t, s, set("a", fmt.Sprint(i)), set(fmt.Sprint("k", i), "x"), gone(fmt.Sprint("k", i-2))))
	}
	cutOff(t, "a merge", s, compact)
	cutOff(t, "a merge with a list", written(t, s, gone("a"), set("z", "z")), compact)
	cutOff(t, "a merge with a snapshot", written(t, snapped(t, s), gone("a"), set("z", "z")), compact)
	cutOff(t, "a merge of which nothing is left", made(4, nil, run{0, []api.Entry{is("a", 1, "x")}}, run{0, []api.Entry{is("b", 2, "x")}}, run{0, []api.Entry{isnt("a", 3)}}, run{0, []api.Entry{isnt("b", 4)}}), compact)
	cutOff(t, "a merge of two levels", made(200, nil, run{1, row(150, 50)}, run{2, row(9, 1)}, run{3, []api.Entry{is("a", 1, "x")}}), compact)
}

func TestACrashWithinOpen(t *testing.T) {
	v, l := version()
	a, b := batches(7, []api.Change{set("x", "7")}), batches(8, []api.Change{set("x", "8"), gone("a")})
	for what, f := range map[string]files.State{
		"no files":            disk(),
		"tables":              disk(l...),
		"a log alone":         disk(of("l1", batches(1, []api.Change{set("x", "7")}))),
		"a log":               disk(append(l, of("l3", a))...),
		"two logs":            disk(append(l, of("l3", a), of("l4", b))...),
		"logs out of order":   disk(append(l, of("l3", b), of("l4", a))...),
		"a gap in a log":      disk(append(l, of("l3", slices.Concat(a, batches(9, []api.Change{set("y", "9")}))), of("l4", b[:12]))...),
		"a batch far ahead":   disk(append(l, of("l3", batches(9, []api.Change{set("y", "9")})), of("l4", a), of("l5", batches(11, []api.Change{set("z", "9")})))...),
		"waste":               disk(append(l, of("l3", a), of("t6", octetsOf(is("a", 9, "never"))), of("t1"), of("m5", []byte("torn")), of("next", current(5)), of("l1"))...),
		"waste, no CURRENT":   disk(of("m1"), of("next", current(1)), of("t1"), of("l1", batches(1, []api.Change{set("x", "7")}))),
		"the highest numbers": disk(append(l[:2:2], of("m2147483647", whole(v)), of("CURRENT", current(lastID)), of("m1"), of("l2147483647", a), of("l1"))...),
	} {
		s, acts, e := Open(f)
		if e != api.OK {
			t.Fatalf("P15.6: Open of %s: error %d", what, e)
		}
		oldOrNew(t, "Open of "+what, f, acts, toldBy(t, s), toldBy(t, s))
	}
	f := disk(append(l, of("l3", many(7, 5000, 30, map[string]string{})))...)
	s, acts, e := Open(f)
	if e != api.OK {
		t.Fatalf("P15.6: Open of many versions: error %d", e)
	}
	openedAgain(t, "many versions", f, acts, toldBy(t, s))
}

// life is a store, and what a map has at each number.
type life struct {
	s  State
	at []map[string]string
}

// wrote: the maps behind these changes, one by one.
func (x *life) wrote(l []api.Change) {
	for _, c := range l {
		m := maps.Clone(x.at[len(x.at)-1])
		if m[c.Key] = c.Value; c.Del {
			delete(m, c.Key)
		}
		x.at = append(x.at, m)
	}
}

// agrees fails unless the store tells what the maps tell, now and at each snapshot.
func (x *life) agrees(t *testing.T, what string, r *rand.Rand) {
	t.Helper()
	sound(t, what, x.s)
	if x.s.Seq != len(x.at)-1 {
		t.Fatalf("P15.5: %s: Seq is %d, want %d", what, x.s.Seq, len(x.at)-1)
	}
	for _, n := range append(slices.Clone(x.s.Snaps), x.s.Seq) {
		want := pairsOf(x.at[n])
		tells(t, what, x.s, n, want)
		if len(want) > 0 {
			p := want[r.Intn(len(want))]
			if v, ok, e := Get(x.s, p.Key, n); v != p.Value || !ok || e != api.OK {
				t.Errorf("P15.5: %s: Get(%q) at %d: %q, %t, error %d; want %q", what, p.Key, n, v, ok, e, p.Value)
			}
		}
		key := fmt.Sprint("k", r.Intn(40))
		if v, ok, e := Get(x.s, key, n); v != x.at[n][key] || e != api.OK || ok != slices.ContainsFunc(want, func(p api.Pair) bool { return p.Key == key }) {
			t.Errorf("P15.5: %s: Get(%q) at %d: %q, %t, error %d", what, key, n, v, ok, e)
		}
	}
}

// changesOf: drawn changes of keys that are not too many.
func changesOf(r *rand.Rand, keys int) []api.Change {
	var l []api.Change
	for range 1 + r.Intn(1<<r.Intn(7)) {
		c := set(fmt.Sprint("k", r.Intn(keys)), strings.Repeat(string(rune('a'+r.Intn(26))), r.Intn(5)))
		if r.Intn(3) == 0 {
			c = gone(c.Key)
		}
		l = append(l, c)
	}
	return l
}

// step: a drawn call that writes, and the changes that it writes.
func step(r *rand.Rand, keys int) (string, writer, []api.Change) {
	switch n := r.Intn(10); {
	case n < 6:
		l := changesOf(r, keys)
		draws := []uint64{r.Uint64(), r.Uint64() << 4, 0, r.Uint64() << 8}[:r.Intn(5)]
		return fmt.Sprint("Write of ", len(l)), write(l, draws...), l
	case n < 8:
		return "Flush", flush, nil
	}
	return "Compact", func(s State) (State, []api.Act, api.Errno) {
		s, _, l, e := Compact(s)
		return s, l, e
	}, nil
}

// snaps takes or drops a snapshot, or does neither.
func (x *life) snaps(t *testing.T, r *rand.Rand) {
	t.Helper()
	switch n := r.Intn(6); {
	case n == 0 && len(x.s.Snaps) < 16:
		x.s = snapped(t, x.s)
	case n == 1 && len(x.s.Snaps) > 0:
		s, e := Drop(x.s, x.s.Snaps[r.Intn(len(x.s.Snaps))])
		if e != api.OK {
			t.Fatalf("P15.4: Drop: error %d", e)
		}
		x.s = s
	}
}

// crash cuts off the call, or not: what Open tells then is what was ahead of it, or what is behind it.
func (x *life) crash(t *testing.T, what string, r *rand.Rand, acts []api.Act, l []api.Change) {
	t.Helper()
	cut := r.Intn(len(acts) + 2)
	f := upTo(t, x.s.Files, acts, min(cut, len(acts)))
	k := keeps(f, r)
	x.s = opened(t, crashed(t, f, k[r.Intn(len(k))]))
	if x.s.Seq > len(x.at)-1 || cut >= len(acts) {
		x.wrote(l)
	}
	x.agrees(t, fmt.Sprint(what, ", cut off behind ", cut, " of ", len(acts), " acts"), r)
}

// P15.5, P15.6: many steps in mixed order, some of them cut off by a crash.
func TestLives(t *testing.T) {
	for seed := range int64(40) {
		r := rand.New(rand.NewSource(seed))
		keys := []int{3, 12, 40, 400}[seed%4]
		x := life{opened(t, disk()), []map[string]string{{}}}
		crashes := seed%3 != 0
		for i := range 100 {
			name, do, l := step(r, keys)
			what := fmt.Sprintf("life %d, step %d, %s", seed, i, name)
			next, acts, e := do(x.s)
			if e != api.OK {
				t.Fatalf("P15.5: %s: error %d", what, e)
			}
			if crashes && r.Intn(8) == 0 {
				x.crash(t, what, r, acts, l)
				continue
			}
			x.s = behind(t, what, x.s.Files, next, acts, e)
			x.wrote(l)
			x.snaps(t, r)
			x.agrees(t, what, r)
		}
	}
}

// A long life on a disk that is full again and again: what is refused changes nothing, and behind it the store goes on.
func TestLivesOnASmallDisk(t *testing.T) {
	refused := 0
	for seed := range int64(30) {
		r := rand.New(rand.NewSource(seed))
		f, _ := files.New(600 + r.Intn(1500))
		x := life{opened(t, f), []map[string]string{{}}}
		for i := range 100 {
			name, do, l := step(r, 12)
			what := fmt.Sprintf("small life %d, step %d, %s", seed, i, name)
			was := copied(x.s)
			next, acts, e := do(x.s)
			if !same(x.s, was) {
				t.Fatalf("P15.7: %s changes the store that was handed in", what)
			}
			if e == api.ErrFull {
				refused++
				refuses(t, what, x.s, e, do)
			} else {
				x.s = behind(t, what, x.s.Files, next, acts, e)
				x.wrote(l)
			}
			x.snaps(t, r)
			x.agrees(t, what, r)
		}
	}
	if refused < 100 {
		t.Errorf("P15.7: %d calls were refused: too few to tell", refused)
	}
}
