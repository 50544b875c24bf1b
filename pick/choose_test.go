package pick

import (
	"fmt"
	"math/rand"
	"slices"
	"testing"

	"tickler/api"
	"tickler/edit"
)

// P12.2: Choose; P12.3

// planIs fails unless Choose tells this plan.
func planIs(t *testing.T, what string, v edit.Version, level int, bottom bool, inputs ...int) {
	t.Helper()
	p, ok, e := Choose(v)
	if e != api.OK || !ok || !samePlan(p, Plan{Level: level, Inputs: inputs, Bottom: bottom}) {
		t.Errorf("P12.2: Choose, %s: %v, %t, error %d; want {%d %v %t}", what, p, ok, e, level, inputs, bottom)
	}
}

// none fails unless Choose tells that there is no plan.
func none(t *testing.T, what string, v edit.Version) {
	t.Helper()
	if p, ok, e := Choose(v); e != api.OK || ok || !samePlan(p, Plan{}) {
		t.Errorf("P12.2: Choose, %s: %v, %t, error %d; want none", what, p, ok, e)
	}
}

func TestChooseOfNoneFull(t *testing.T) {
	none(t, "new", edit.New())
	none(t, "an empty list", edit.Version{Tables: []edit.Meta{}, Next: 3})
	none(t, "levels", levels())
	none(t, "three of level 0", of(row(1, 0, 4096, 4096, 4096)...))
	none(t, "128 of level 1", of(row(1, 1, 100, 28)...))
	none(t, "512 of level 2", of(row(1, 2, 500, 12)...))
	none(t, "256 of level 3", of(row(1, 3, shared(4096*256, 256)...)...))
	none(t, "all levels just not full", of(slices.Concat(row(1, 0, 1, 1, 1), row(11, 1, 128), row(21, 2, 512), row(31, 3, 4096, 4096))...))
}

// four: four tables of level 0, from IDs 1 to 4, apart from each other: together they go from b to q.
func four() []edit.Meta {
	return []edit.Meta{table(4, 0, "k", "l"), table(3, 0, "b", "c"), table(2, 0, "p", "q"), table(1, 0, "d", "e")}
}

func TestChooseOfLevel0(t *testing.T) {
	planIs(t, "four alone", of(four()...), 0, true, 4, 3, 2, 1)
	planIs(t, "five", of(append([]edit.Meta{table(9, 0, "a", "a")}, four()...)...), 0, true, 9, 4, 3, 2, 1)
	planIs(t, "one is greater", of(row(1, 0, 1, 4096, 1, 1)...), 0, true, 4, 3, 2, 1)
	var ids []int
	for id := 256; id > 0; id-- {
		ids = append(ids, id)
	}
	planIs(t, "256", of(row(1, 0, shared(256, 256)...)...), 0, true, ids...)
}

// The tables of level 0 lie apart: what lies between them on level 1 goes with them.
func TestChooseOfLevel0ThatLiesApart(t *testing.T) {
	for _, c := range []struct {
		low, high string
		touched   bool
	}{
		{"a", "a\xff", false}, {"a", "b", true}, {"b", "b", true}, {"b\x00", "b\x01", true}, {"c", "d", true}, {"f", "j", true}, {"f", "f", true},
		{"k", "k", true}, {"m", "o", true}, {"q", "q", true}, {"q", "z", true}, {"q\x00", "z", false}, {"r", "z", false}, {"a", "z", true}, {"\x00", "\xff", true}, {"b", "q", true},
	} {
		v := of(append(four(), table(7, 1, c.low, c.high))...)
		want := []int{4, 3, 2, 1}
		if c.touched {
			want = append(want, 7)
		}
		planIs(t, fmt.Sprintf("level 1 from %q to %q", c.low, c.high), v, 0, true, want...)
	}
	several := of(append(four(), table(9, 1, "a", "aa"), table(5, 1, "ab", "b"), table(8, 1, "f", "g"), table(6, 1, "q", "r"), table(7, 1, "s", "t"))...)
	planIs(t, "three of five", several, 0, true, 4, 3, 2, 1, 5, 8, 6)
	first := of(table(4, 0, "a", "z"), table(3, 0, "d", "e"), table(2, 0, "d", "e"), table(1, 0, "f", "g"), table(5, 1, "a", "b"), table(6, 1, "y", "z"))
	planIs(t, "the first alone has both ends", first, 0, true, 4, 3, 2, 1, 5, 6)
	last := of(table(4, 0, "f", "g"), table(3, 0, "d", "e"), table(2, 0, "d", "e"), table(1, 0, "a", "z"), table(5, 1, "a", "b"), table(6, 1, "y", "z"))
	planIs(t, "the last alone has both ends", last, 0, true, 4, 3, 2, 1, 5, 6)
}

// What comes along from the next level takes no others of it along: these do not touch what is above.
func TestChooseTakesNoMore(t *testing.T) {
	v := of(append(four(), table(5, 1, "a", "b"), table(6, 1, "q", "s"), table(7, 1, "t", "u"))...)
	planIs(t, "level 0", v, 0, true, 4, 3, 2, 1, 5, 6)
	w := of(meta(1, 1, 129, "c", "d"), table(2, 1, "e", "f"), table(3, 2, "a", "c"), table(4, 2, "d", "g"), table(5, 2, "h", "i"))
	planIs(t, "level 1", w, 1, true, 1, 3, 4)
}

// Of another level the one with the greatest Count goes.
func TestChooseOfOneTable(t *testing.T) {
	for level, room := range map[int]int{1: 128, 2: 512} {
		for _, c := range []struct {
			what   string
			counts []int
			want   int
		}{
			{"one", []int{room + 1}, 0},
			{"one, all it may have", []int{4096}, 0},
			{"the first of two", []int{room, 1}, 0},
			{"the last of two", []int{1, room}, 1},
			{"the middle", []int{room / 2, room/2 + 1, room / 2}, 1},
			{"the last of four", []int{1, 2, 3, room}, 3},
			{"all the same", []int{room, room, room}, 0},
			{"the last two the same", []int{1, room, room}, 1},
			{"the first and the last the same", []int{room, 1, room}, 0},
			{"rising", []int{room, room + 1, room + 2, room + 3}, 3},
			{"falling", []int{room + 3, room + 2, room + 1, room}, 0},
			{"three the same behind", []int{7, 9, room, 9, room, room}, 2},
			{"256 the same", shared(4*256, 256), 0},
			{"256, one more", slices.Concat(shared(4*200, 200), []int{5}, shared(4*55, 55)), 200},
		} {
			planIs(t, fmt.Sprint("level ", level, ", ", c.what), of(row(1, level, c.counts...)...), level, true, 1+c.want)
		}
	}
}

// It goes by the place, not by the ID.
func TestChooseOfSeveralTheFirst(t *testing.T) {
	v := of(meta(9, 1, 50, "a", "b"), meta(7, 1, 60, "c", "d"), meta(2, 1, 60, "e", "f"), meta(8, 1, 60, "g", "h"))
	planIs(t, "level 1", v, 1, true, 7)
	for i := range v.Tables {
		v.Tables[i].Level = 2
		v.Tables[i].Count *= 4
	}
	planIs(t, "level 2", v, 2, true, 7)
}

// The table from f to m goes; those of the next level that it touches go with it.
func TestChooseOfTheNextLevel(t *testing.T) {
	for level := 1; level < 3; level++ {
		above := []edit.Meta{table(1, level, "a", "e"), meta(2, level, 1000, "f", "m"), table(3, level, "n", "z")}
		with := func(tables ...edit.Meta) edit.Version { return of(slices.Concat(above, tables)...) }
		planIs(t, "none there", with(), level, true, 2)
		planIs(t, "none touched", with(table(9, level+1, "a", "e\xff"), table(8, level+1, "m\x00", "z")), level, true, 2)
		planIs(t, "one by its High", with(table(9, level+1, "a", "f"), table(8, level+1, "n", "z")), level, true, 2, 9)
		planIs(t, "one by its Low", with(table(9, level+1, "a", "e"), table(8, level+1, "m", "z")), level, true, 2, 8)
		planIs(t, "one within", with(table(9, level+1, "a", "e"), table(8, level+1, "h", "i")), level, true, 2, 8)
		planIs(t, "one over it", with(table(9, level+1, "a", "z")), level, true, 2, 9)
		planIs(t, "several", with(table(5, level+1, "a", "b"), table(9, level+1, "c", "f"), table(4, level+1, "g", "g"), table(8, level+1, "k", "k"), table(6, level+1, "m", "q"), table(7, level+1, "r", "s")), level, true, 2, 9, 4, 8, 6)
	}
}

// The lowest full level is taken, whatever the others have.
func TestChooseOfSeveralLevels(t *testing.T) {
	zero, one, two := row(1, 0, 1, 1, 1, 1), row(11, 1, 100, 4096), row(21, 2, 600, 700)
	planIs(t, "0, 1 and 2", of(slices.Concat(zero, one, two)...), 0, false, 4, 3, 2, 1, 11, 12)
	planIs(t, "0 and 1", of(slices.Concat(zero, one)...), 0, true, 4, 3, 2, 1, 11, 12)
	planIs(t, "0 and 2", of(slices.Concat(zero, two)...), 0, false, 4, 3, 2, 1)
	planIs(t, "1 and 2", of(slices.Concat(one, two)...), 1, true, 12, 22)
	planIs(t, "1 and 2, three above", of(slices.Concat(zero[1:], one, two)...), 1, true, 12, 22)
	planIs(t, "2, others above", of(slices.Concat(zero[1:], row(11, 1, 128), two, row(31, 3, 1, 1, 1))...), 2, true, 22, 32)
}

// Bottom is by the levels below the next one, and by the span of all inputs.
func TestBottomOfLevel0(t *testing.T) {
	for below := 2; below < 4; below++ {
		with := func(low, high string) []edit.Meta { return []edit.Meta{table(9, below, low, high)} }
		for _, c := range []struct {
			low, high       string
			bottom, further bool
		}{
			// further: with a table of level 1 from ab to c, and one from m to s.
			{"a", "a", true, true}, {"a", "aa\xff", true, true}, {"a", "ab", true, false}, {"aa", "ac", true, false}, {"a", "a\xff", true, false},
			{"a", "b", false, false}, {"b", "b", false, false}, {"g", "g", false, false}, {"m", "n", false, false}, {"q", "q", false, false}, {"a", "z", false, false},
			{"q\x00", "r", true, false}, {"q\x00", "z", true, false}, {"s", "z", true, false}, {"s\x00", "z", true, true}, {"t", "z", true, true},
		} {
			what := fmt.Sprintf("level %d from %q to %q", below, c.low, c.high)
			planIs(t, what, of(slices.Concat(four(), with(c.low, c.high))...), 0, c.bottom, 4, 3, 2, 1)
			next := []edit.Meta{table(5, 1, "ab", "c"), table(6, 1, "m", "s")}
			planIs(t, what+", further", of(slices.Concat(four(), next, with(c.low, c.high))...), 0, c.further, 4, 3, 2, 1, 5, 6)
			// What is not touched on the next level makes the span no wider.
			apart := []edit.Meta{table(5, 1, "a", "a\xff"), table(6, 1, "q\x00", "z")}
			planIs(t, what+", apart", of(slices.Concat(four(), apart, with(c.low, c.high))...), 0, c.bottom, 4, 3, 2, 1)
		}
	}
}

func TestBottomOfLevel1(t *testing.T) {
	above := []edit.Meta{table(1, 1, "a", "c"), meta(2, 1, 200, "f", "m"), table(3, 1, "n", "z")}
	for _, c := range []struct {
		low, high       string
		bottom, further bool
	}{
		// further: with a table of level 2 from d to f.
		{"a", "c", true, true}, {"a", "c\xff", true, true}, {"a", "d", true, false}, {"e", "e", true, false}, {"a", "f", false, false}, {"f", "f", false, false},
		{"g", "h", false, false}, {"m", "z", false, false}, {"m\x00", "z", true, true}, {"a", "z", false, false}, {"n", "z", true, true},
	} {
		what := fmt.Sprintf("level 3 from %q to %q", c.low, c.high)
		deep := table(9, 3, c.low, c.high)
		planIs(t, what, of(slices.Concat(above, []edit.Meta{deep})...), 1, c.bottom, 2)
		planIs(t, what+", further", of(slices.Concat(above, []edit.Meta{table(5, 2, "d", "f"), deep})...), 1, c.further, 2, 5)
	}
	// Those of the full level that stay, and those above, are not below.
	stays := of(slices.Concat([]edit.Meta{table(8, 0, "a", "z")}, above)...)
	planIs(t, "level 0 over it", stays, 1, true, 2)
}

// Below level 3 there is nothing.
func TestBottomOfLevel2(t *testing.T) {
	above := []edit.Meta{table(8, 0, "a", "z"), table(7, 1, "a", "z"), table(1, 2, "a", "c"), meta(2, 2, 600, "f", "m")}
	planIs(t, "alone", of(above...), 2, true, 2)
	planIs(t, "one of level 3 touched", of(slices.Concat(above, []edit.Meta{table(5, 3, "a", "z")})...), 2, true, 2, 5)
	planIs(t, "one of level 3 not touched", of(slices.Concat(above, []edit.Meta{table(5, 3, "n", "z")})...), 2, true, 2)
}

// A key lies on one of the levels below, or on several, or between the tables of one.
func TestBottomOfSeveralBelow(t *testing.T) {
	for what, c := range map[string]struct {
		below  []edit.Meta
		bottom bool
	}{
		"around it on both":    {[]edit.Meta{table(5, 2, "a", "a"), table(6, 2, "r", "z"), table(7, 3, "a", "aa"), table(8, 3, "qq", "z")}, true},
		"within it on 3 alone": {[]edit.Meta{table(5, 2, "a", "a"), table(6, 2, "r", "z"), table(7, 3, "f", "f")}, false},
		"within it on 2 alone": {[]edit.Meta{table(5, 2, "g", "g"), table(7, 3, "a", "aa"), table(8, 3, "r", "z")}, false},
		"within it on both":    {[]edit.Meta{table(5, 2, "g", "g"), table(7, 3, "g", "g")}, false},
		"the last of many":     {[]edit.Meta{table(5, 2, "A", "B"), table(6, 2, "C", "D"), table(9, 2, "a", "b")}, false},
	} {
		planIs(t, what, of(slices.Concat(four(), c.below)...), 0, c.bottom, 4, 3, 2, 1)
	}
}

// P12.3: on the next level each table is chosen that has a key in common with one that is chosen above, and Touch tells the same.
func TestAllInCommonIsChosen(t *testing.T) {
	r := rand.New(rand.NewSource(3))
	plans := 0
	for range 3000 {
		v := drawn(r)
		p, ok, _ := Choose(v)
		if !ok {
			continue
		}
		plans++
		var above []edit.Meta
		for _, m := range modelAt(v, p.Level) {
			if slices.Contains(p.Inputs, m.ID) {
				above = append(above, m)
			}
		}
		for _, m := range modelAt(v, p.Level+1) {
			common := slices.ContainsFunc(above, func(a edit.Meta) bool { return modelTouches(m, a.Low, a.High) })
			if common && !slices.Contains(p.Inputs, m.ID) {
				t.Fatalf("P12.3: %v: %v is not in %v", v.Tables, m, p)
			}
		}
		low, high := modelEnds(above)
		next, e := Touch(v, p.Level+1, low, high)
		if e != api.OK || !slices.Equal(p.Inputs[len(above):], next) {
			t.Fatalf("P12.3: %v: %v, but Touch tells %v, error %d", v.Tables, p, next, e)
		}
	}
	if plans < 500 {
		t.Errorf("only %d plans were drawn", plans)
	}
}

// P12.3: what is merged into one table of the next level, in the place of its inputs, may stand there.
func TestThePlanCanBeDone(t *testing.T) {
	r := rand.New(rand.NewSource(4))
	for range 3000 {
		v := drawn(r)
		p, ok, _ := Choose(v)
		if !ok {
			continue
		}
		var inputs []edit.Meta
		for _, m := range v.Tables {
			if slices.Contains(p.Inputs, m.ID) {
				inputs = append(inputs, m)
			}
		}
		low, high := modelEnds(inputs)
		done := edit.Edit{Drop: p.Inputs, Add: []edit.Meta{table(50, p.Level+1, low, high)}, Seq: v.Seq, Next: v.Next}
		if _, e := edit.Apply(v, done); e != api.OK {
			t.Fatalf("P12.3: %v: %v can't be done: error %d", v.Tables, p, e)
		}
	}
}
