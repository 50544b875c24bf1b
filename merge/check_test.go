package merge

import (
	"fmt"
	"math/rand"
	"slices"
	"testing"

	"tickler/api"
)

// checked fails unless Check answers that error, and Merge, Thin and Seen the same, with nothing beside it.
func checked(t *testing.T, what string, l []api.Entry, want api.Errno) {
	t.Helper()
	if e := Check(l); e != want {
		t.Errorf("P13.1: Check of %s: error %d; want %d", what, e, want)
	}
	if m, e := Merge([][]api.Entry{l}); e != want || want != api.OK && len(m) != 0 {
		t.Errorf("P13.1: Merge of %s: %d versions, error %d; want error %d", what, len(m), e, want)
	}
	if m, e := Thin(l, nil, false); e != want || want != api.OK && len(m) != 0 {
		t.Errorf("P13.2: Thin of %s: %d versions, error %d; want error %d", what, len(m), e, want)
	}
	if m, e := Thin(l, []int{3}, true); e != want || want != api.OK && len(m) != 0 {
		t.Errorf("P13.2: Thin of %s at the bottom: %d versions, error %d; want error %d", what, len(m), e, want)
	}
	if p, e := Seen(l, 7); e != want || want != api.OK && len(p) != 0 {
		t.Errorf("P13.3: Seen of %s: %d pairs, error %d; want error %d", what, len(p), e, want)
	}
}

// with: l with x in the place of version at.
func with(l []api.Entry, at int, x api.Entry) []api.Entry {
	c := slices.Clone(l)
	c[at] = x
	return c
}

// P13.1: Check

func TestVersionsThatMayBeARun(t *testing.T) {
	for what, l := range lists() {
		checked(t, what, l, api.OK)
	}
	for n := range 70 {
		checked(t, fmt.Sprint(n, " versions"), many(n), api.OK)
		checked(t, fmt.Sprint(n, " versions of one key"), oneKey(n), api.OK)
	}
}

// A run may be longer than a list (4096) or a table.
func TestCheckOfLongRuns(t *testing.T) {
	for _, n := range []int{4096, 4097, 1<<16 - 1, 1 << 16, 1<<16 + 1, 90000} {
		l := many(n)
		if e := Check(l); e != api.OK {
			t.Errorf("P13.1: Check of %d versions: error %d", n, e)
		}
		if e := Check(with(l, n-1, l[n-2])); e != api.ErrOrder {
			t.Errorf("P13.1: Check of %d versions, the last one twice: error %d", n, e)
		}
		if e := Check(with(l, n-1, api.Entry{})); e != api.ErrArg {
			t.Errorf("P13.1: Check of %d versions, the last one nothing at all: error %d", n, e)
		}
	}
}

func TestVersionsThatMayNotStand(t *testing.T) {
	for what, x := range wrong() {
		checked(t, what, []api.Entry{x}, api.ErrArg)
		for _, n := range []int{2, 3, 5, 64} {
			for _, at := range []int{0, 1, n / 2, n - 1} {
				checked(t, fmt.Sprint(what, ", version ", at, " of ", n), with(many(n), at, x), api.ErrArg)
			}
		}
	}
}

func TestVersionsOutOfOrder(t *testing.T) {
	for what, pair := range disorders() {
		checked(t, what, pair[:], api.ErrOrder)
		checked(t, what+", behind others", []api.Entry{put("\x00", 9), put("\x00", 8), put("\x00", 7), pair[0], pair[1]}, api.ErrOrder)
		checked(t, what+", ahead of others", []api.Entry{pair[0], pair[1], put("\xff\xff", 9), put("\xff\xff", 8)}, api.ErrOrder)
		if pair[0].Key != pair[1].Key || pair[0].Seq != pair[1].Seq {
			checked(t, what+", the other way round", []api.Entry{pair[1], pair[0]}, api.OK)
		}
	}
	for _, n := range []int{2, 3, 4, 9, 30} {
		for i := range n - 1 {
			l := many(n)
			l[i], l[i+1] = l[i+1], l[i]
			checked(t, fmt.Sprint("versions ", i, " and ", i+1, " of ", n, " turned"), l, api.ErrOrder)
			checked(t, fmt.Sprint("version ", i, " of ", n, " twice"), with(many(n), i+1, many(n)[i]), api.ErrOrder)
		}
	}
}

// The chapter names ErrArg ahead of ErrOrder, and does not say 'version by version': wherever the two are, ErrArg is told.
func TestWhichErrorOfARunComesFirst(t *testing.T) {
	a, m, z := put("a", 5), put("m", 5), put("z", 5)
	for what, x := range wrong() {
		for how, l := range map[string][]api.Entry{
			"out of order itself":                     {z, x},
			"and the next is out of order":            {x, z, a},
			"twice":                                   {x, x},
			"behind two out of order":                 {z, a, x},
			"behind one twice":                        {m, m, x},
			"and another ahead of it out of order":    {a, z, m, x},
			"in the midst, and the last out of order": {a, x, z, m},
			"the last of many out of order":           {z, m, a, z, m, a, z, z, x},
		} {
			checked(t, what+", "+how, l, api.ErrArg)
		}
		checked(t, what+", behind many out of order", append(slices.Concat(many(60), many(60)), x), api.ErrArg)
	}
}

func TestCheckAgainstTheModel(t *testing.T) {
	r := rand.New(rand.NewSource(131))
	seen := map[api.Errno]int{}
	for range 6000 {
		l := drawn(r)
		for range r.Intn(3) {
			if len(l) > 1 {
				i, j := r.Intn(len(l)), r.Intn(len(l))
				switch r.Intn(3) {
				case 0:
					l[i], l[j] = l[j], l[i]
				case 1:
					l[i].Seq = r.Intn(14)
				case 2:
					l[i].Kind = r.Intn(4)
				}
			}
		}
		want := modelCheck(l)
		checked(t, brief(l), l, want)
		seen[want]++
	}
	for _, e := range []api.Errno{api.OK, api.ErrArg, api.ErrOrder} {
		if seen[e] < 200 {
			t.Errorf("too few runs with error %d were drawn: %v", e, seen)
		}
	}
}
