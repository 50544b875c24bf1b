package manifest

import (
	"fmt"
	"math/rand"
	"slices"
	"strings"
	"testing"

	"tickler/api"
	"tickler/edit"
	"tickler/files"
)

// answer is what Load tells.
type answer struct {
	v  edit.Version
	id int
	e  api.Errno
}

func loaded(s files.State) answer {
	v, id, e := Load(s)
	return answer{v, id, e}
}

func (a answer) is(b answer) bool {
	return same(a.v, b.v) && a.id == b.id && a.e == b.e
}

// crashed fails the test if files that may be can not crash.
func crashed(t *testing.T, s files.State, keep []int) files.State {
	t.Helper()
	left, e := files.Crash(s, keep)
	if e != api.OK {
		t.Fatalf("P14.4: a crash: error %d", e)
	}
	return left
}

// keeps: of each file as little and as much as a crash may keep, of one file each number of octets, and some drawn ones.
func keeps(s files.State, r *rand.Rand) [][]int {
	l := [][]int{nil, slices.Repeat([]int{1 << 30}, len(s.Files))}
	for i, f := range s.Files {
		for n := 1; n <= len(f.Data)-f.Synced; n++ {
			keep := make([]int, len(s.Files))
			keep[i] = n
			l = append(l, keep)
		}
	}
	for range 5 {
		keep := make([]int, len(s.Files))
		for i, f := range s.Files {
			keep[i] = r.Intn(len(f.Data) - f.Synced + 1)
		}
		l = append(l, keep)
	}
	return l
}

// oldOrNew does the acts one by one, and lets the disk crash ahead of each and behind the last, in many ways. Told is what Load then tells: was or will, and behind all acts will. It answers how often it was either.
func oldOrNew(t *testing.T, what string, s files.State, l []api.Act, was, will answer) (olds, news int) {
	t.Helper()
	r := rand.New(rand.NewSource(144))
	for i := range len(l) + 1 {
		f, n, e := files.Run(s, l[:i])
		if n != i || e != api.OK {
			t.Fatalf("P14.2: %s: act %d: error %d", what, n, e)
		}
		for _, keep := range keeps(f, r) {
			got := loaded(crashed(t, f, keep))
			switch {
			case got.is(will):
				news++
			case got.is(was) && i < len(l):
				olds++
			default:
				t.Errorf("P14.4: %s, a crash behind %d of %d acts that keeps %v: Load tells %s; it was %s, it will be %s", what, i, len(l), keep, brief(got), brief(was), brief(will))
			}
		}
	}
	return olds, news
}

// P14.4

// safeGrounds: those of the grounds where what Load tells lasts already.
func safeGrounds(t *testing.T) map[string]files.State {
	t.Helper()
	all := grounds()
	for what, s := range all {
		if !loaded(crashed(t, s, nil)).is(loaded(s)) {
			delete(all, what)
		}
	}
	if len(all) < 15 {
		t.Fatalf("P14.4: %d grounds are too few", len(all))
	}
	return all
}

func TestACrashWithinBegin(t *testing.T) {
	small := edit.Version{Tables: []edit.Meta{table(1, 0, "a", "b")}, Seq: 3, Next: 2}
	for where, s := range safeGrounds(t) {
		for _, id := range []int{1, 2, 3, 300, lastID} {
			for _, v := range []edit.Version{small, edit.New(), levels()} {
				l, e := Begin(s, v, id)
				if e != api.OK {
					t.Fatalf("P14.2: Begin(%s, %d): error %d", where, id, e)
				}
				what := fmt.Sprintf("Begin(%s, %s, %d)", where, brief(v), id)
				was := loaded(s)
				olds, news := oldOrNew(t, what, s, l, was, answer{v, id, api.OK})
				if news == 0 || olds == 0 && !was.is(answer{v, id, api.OK}) {
					t.Errorf("P14.4: %s: %d times old, %d times new: both must come", what, olds, news)
				}
			}
		}
	}
}

func TestACrashWithinBeginOfALongVersion(t *testing.T) {
	v := versions()["256 tables"]
	s := store(levels(), 2, of("next", current(2)))
	l, _ := Begin(s, v, 3)
	// A crash that keeps any of so many octets takes long: some of them will do.
	f, _, _ := files.Run(s, l[:2])
	for n := 0; n <= len(first(v)); n += 997 {
		if got := loaded(crashed(t, f, []int{0, 0, 0, n, n})); !got.is(answer{levels(), 2, api.OK}) {
			t.Errorf("P14.4: a crash that keeps %d octets of a long manifest: Load tells %s", n, brief(got))
		}
	}
	if got := loaded(crashed(t, done(t, s, l), nil)); !got.is(answer{v, 3, api.OK}) {
		t.Errorf("P14.4: a long manifest: Load tells %s", brief(got))
	}
}

func TestACrashWithinNote(t *testing.T) {
	l, versions := history(t)
	s := done(t, disk(of("l4"), of("m2", []byte("old"))), modelBegin(disk(), versions[0], 3))
	for i, d := range l[1:] {
		acts, e := Note(3, d)
		if e != api.OK {
			t.Fatalf("P14.2: Note %d: error %d", i, e)
		}
		was, will := answer{versions[i], 3, api.OK}, answer{versions[i+1], 3, api.OK}
		olds, news := oldOrNew(t, fmt.Sprint("Note ", i), s, acts, was, will)
		if olds == 0 && !was.is(will) || news == 0 {
			t.Errorf("P14.4: Note %d: %d times old, %d times new: both must come", i, olds, news)
		}
		s = done(t, s, acts)
	}
}

func TestACrashWithinNoteKeepsTheRecordOrNothing(t *testing.T) {
	l, versions := history(t)
	s := done(t, disk(), modelBegin(disk(), versions[0], 3))
	acts, _ := Note(3, l[2])
	f, _, _ := files.Run(s, acts[:1])
	for n := range len(acts[0].Data) + 1 {
		want := versions[0]
		if n == len(acts[0].Data) {
			want, _ = edit.Apply(want, l[2])
		}
		if got := loaded(crashed(t, f, []int{n})); !got.is(answer{want, 3, api.OK}) {
			t.Errorf("P14.4: of %d octets a crash keeps %d: Load tells %s, want %s", len(acts[0].Data), n, brief(got), brief(want))
		}
	}
}

// What a crash left behind is ground for the next Begin, whatever it is.
func TestBeginBehindACrashWithinBegin(t *testing.T) {
	r := rand.New(rand.NewSource(1444))
	for where, s := range safeGrounds(t) {
		l, _ := Begin(s, levels(), 3)
		for i := range len(l) + 1 {
			f, _, _ := files.Run(s, l[:i])
			for _, keep := range [][]int{nil, slices.Repeat([]int{1 << 30}, len(f.Files)), keeps(f, r)[2]} {
				left := crashed(t, f, keep)
				v := edit.Version{Tables: []edit.Meta{table(7, 1, "k", "l")}, Seq: 2000, Next: 9}
				again, e := Begin(left, v, 3)
				if e != api.OK {
					t.Fatalf("P14.2: Begin behind a crash: error %d", e)
				}
				what := fmt.Sprintf("Begin(%s) behind a crash behind %d acts", where, i)
				oldOrNew(t, what, left, again, loaded(left), answer{v, 3, api.OK})
			}
		}
	}
}

// A disk too small for the acts: a crash behind those that were done leaves what was there.
func TestACrashWhereThereIsNoRoom(t *testing.T) {
	s := store(levels(), 2)
	used := 0
	for _, f := range s.Files {
		used += len(f.Data)
	}
	need := len(first(levels())) + len(current(3))
	for room := range need + 1 {
		s.Cap = used + room
		l, _ := Begin(s, levels(), 3)
		f, n, e := files.Run(s, l)
		want := answer{levels(), 2, api.OK}
		if room == need {
			want.id = 3
		}
		if got := loaded(crashed(t, f, nil)); (e == api.OK) != (n == len(l)) || (e == api.OK) != (room == need) || !got.is(want) {
			t.Errorf("P14.4: with room for %d octets, behind %d of %d acts (error %d): Load tells %s", room, n, len(l), e, brief(got))
		}
	}
}

// Many begins and notes, each cut off by a crash or not, on one disk.
func TestALongLife(t *testing.T) {
	for seed := range int64(40) {
		r := rand.New(rand.NewSource(seed))
		s := disk()
		now := answer{e: api.ErrNone}
		for step := range 60 {
			acts, will := drawnStep(t, r, now, s)
			cut := len(acts)
			if r.Intn(2) == 0 {
				cut = r.Intn(len(acts) + 1)
			}
			f, _, _ := files.Run(s, acts[:cut])
			k := keeps(f, r)
			if cut < len(acts) || r.Intn(2) == 0 {
				f = crashed(t, f, k[r.Intn(len(k))])
			}
			got := loaded(f)
			if !got.is(will) && (cut == len(acts) || !got.is(now)) {
				t.Fatalf("P14.4: life %d, step %d, %d of %d acts: Load tells %s; it was %s, it will be %s", seed, step, cut, len(acts), brief(got), brief(now), brief(will))
			}
			s, now = f, got
			// A torn end would hide what is noted behind it: so a new manifest is begun, as behind any crash.
			if cut < len(acts) && now.e == api.OK {
				l, _ := Begin(s, now.v, now.id+1)
				s = done(t, s, l)
				now.id++
			}
			left, e := Orphans(s, now.v, now.id, 0)
			if e != api.OK || slices.ContainsFunc(left, func(name string) bool { return name != "next" && !strings.HasPrefix(name, "m") }) {
				t.Fatalf("P14.3: life %d, step %d: Orphans: %s, error %d", seed, step, brief(left), e)
			}
		}
	}
}

// drawnStep: the acts of a Begin or of a Note that fits, and what Load will tell behind them.
func drawnStep(t *testing.T, r *rand.Rand, now answer, s files.State) ([]api.Act, answer) {
	t.Helper()
	v := now.v
	if now.e != api.OK {
		v = edit.New()
	}
	d := edit.Edit{Add: []edit.Meta{table(v.Next, 0, "a", "b")}, Seq: v.Seq + r.Intn(3), Next: v.Next + 1}
	if len(v.Tables) > 0 && r.Intn(2) == 0 {
		d.Drop = []int{v.Tables[r.Intn(len(v.Tables))].ID}
	}
	next, e := edit.Apply(v, d)
	if e != api.OK {
		t.Fatalf("P14.4: no step: error %d", e)
	}
	if now.e == api.OK && r.Intn(3) > 0 {
		l, e := Note(now.id, d)
		if e != api.OK {
			t.Fatalf("P14.2: Note: error %d", e)
		}
		return l, answer{next, now.id, api.OK}
	}
	id := max(now.id, 1) + r.Intn(2)
	l, e := Begin(s, next, id)
	if e != api.OK {
		t.Fatalf("P14.2: Begin: error %d", e)
	}
	return l, answer{next, id, api.OK}
}
