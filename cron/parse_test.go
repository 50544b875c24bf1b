package cron

import (
	"math/rand"
	"strings"
	"testing"

	"tickler/api"
)

// parses holds Parse of a text to be a rule.
func parses(t *testing.T, s string, want Rule) {
	t.Helper()
	if r, e := Parse(s); r != want || e != api.OK {
		t.Errorf("P17.1: Parse(%q): %v, error %d; want %v", s, r, e, want)
	}
}

// refuses holds Parse of a text to be an error.
func refuses(t *testing.T, s string, want api.Errno) {
	t.Helper()
	if r, e := Parse(s); r != (Rule{}) || e != want {
		t.Errorf("P17.1: Parse(%q): %v, error %d; want none, error %d", s, r, e, want)
	}
}

// withWord: "* * * * *" with another word as its i-th field.
func withWord(i int, word string) string {
	l := []string{"*", "*", "*", "*", "*"}
	l[i] = word
	return strings.Join(l, " ")
}

// P17.1: Parse

func TestParseOfWholeTexts(t *testing.T) {
	parses(t, "* * * * *", every())
	parses(t, "0 12 29 2 *", Rule{1, 1 << 12, 1 << 29, 1 << 2, 0x7f, false, true})
	parses(t, "*/20 1-5/2 * * 7", Rule{bitsOf(0, 20, 40), bitsOf(1, 3, 5), from(1, 31), from(1, 12), 1, true, false})
	parses(t, "0,30 8-18 1-7,15 */3 1-5", Rule{bitsOf(0, 30), from(8, 18), bitsOf(1, 2, 3, 4, 5, 6, 7, 15), bitsOf(1, 4, 7, 10), from(1, 5), false, false})
	parses(t, "59 23 31 12 6", Rule{1 << 59, 1 << 23, 1 << 31, 1 << 12, 1 << 6, false, false})
	parses(t, "0 0 1 1 0", Rule{1, 1, 2, 2, 1, false, false})
	parses(t, "00 00 01 01 00", Rule{1, 1, 2, 2, 1, false, false})
}

// kindsOfItems: words, which set each means as which field.
func kindsOfItems() []struct {
	i    int
	word string
	want uint64
} {
	return []struct {
		i    int
		word string
		want uint64
	}{
		{0, "*", from(0, 59)}, {1, "*", from(0, 23)}, {3, "*", from(1, 12)},
		{0, "*/1", from(0, 59)}, {0, "*/7", bitsOf(0, 7, 14, 21, 28, 35, 42, 49, 56)}, {0, "*/30", bitsOf(0, 30)}, {0, "*/59", bitsOf(0, 59)}, {0, "*/60", 1}, {0, "*/99", 1},
		{1, "*/5", bitsOf(0, 5, 10, 15, 20)}, {1, "*/23", bitsOf(0, 23)}, {1, "*/24", 1},
		{2, "*/1", from(1, 31)}, {2, "*/10", bitsOf(1, 11, 21, 31)}, {2, "*/30", bitsOf(1, 31)}, {2, "*/31", 2}, {2, "*/99", 2},
		{3, "*/4", bitsOf(1, 5, 9)}, {3, "*/11", bitsOf(1, 12)}, {3, "*/12", 2},
		{4, "*/1", from(0, 6)}, {4, "*/2", bitsOf(0, 2, 4, 6)}, {4, "*/3", bitsOf(0, 3, 6)}, {4, "*/7", 1},
		{0, "0", 1}, {0, "9", 1 << 9}, {0, "09", 1 << 9}, {0, "10", 1 << 10}, {0, "59", 1 << 59},
		{1, "0", 1}, {1, "23", 1 << 23}, {2, "1", 2}, {2, "31", 1 << 31}, {3, "1", 2}, {3, "12", 1 << 12}, {4, "0", 1}, {4, "6", 1 << 6},
		{0, "5-9", from(5, 9)}, {0, "05-09", from(5, 9)}, {0, "7-7", 1 << 7}, {0, "0-59", from(0, 59)}, {2, "1-31", from(1, 31)}, {1, "0-23", from(0, 23)}, {3, "1-12", from(1, 12)}, {4, "0-6", from(0, 6)},
		{0, "5-20/4", bitsOf(5, 9, 13, 17)}, {0, "5-21/4", bitsOf(5, 9, 13, 17, 21)}, {0, "5-22/1", from(5, 22)}, {0, "5-22/99", 1 << 5}, {0, "5-22/17", bitsOf(5, 22)}, {0, "5-22/18", 1 << 5}, {0, "5-22/02", bitsOf(5, 7, 9, 11, 13, 15, 17, 19, 21)}, {2, "3-31/14", bitsOf(3, 17, 31)}, {0, "8-8/1", 1 << 8},
		{0, "1,2", bitsOf(1, 2)}, {0, "2,1", bitsOf(1, 2)}, {0, "1,1,1", 2}, {0, "1-5,3-9", from(1, 9)}, {0, "*/30,5,7-9,50-59/9", bitsOf(0, 30, 5, 7, 8, 9, 50, 59)}, {0, "*,7", from(0, 59)}, {2, "*,*", from(1, 31)}, {4, "*,3", from(0, 6)}, {2, "1-15,16-31", from(1, 31)},
		{4, "7", 1}, {4, "07", 1}, {4, "0,7", 1}, {4, "5-7", bitsOf(5, 6, 0)}, {4, "0-7", from(0, 6)}, {4, "7-7", 1}, {4, "1-7", from(0, 6)}, {4, "6-7", bitsOf(6, 0)},
		{4, "1-7/2", bitsOf(1, 3, 5, 0)}, {4, "2-7/2", bitsOf(2, 4, 6)}, {4, "3-7/4", bitsOf(3, 0)}, {4, "5-7/2", bitsOf(5, 0)}, {4, "0-7/7", 1}, {4, "7-7/3", 1}, {4, "7,1", bitsOf(0, 1)}, {4, "1-7/6", bitsOf(1, 0)}, {4, "1-7/7", 2},
	}
}

func TestParseOfEachKindOfItem(t *testing.T) {
	for _, c := range kindsOfItems() {
		want := withSet(every(), c.i, c.want)
		if c.word == "*" {
			want = every()
		}
		parses(t, withWord(c.i, c.word), want)
	}
}

func TestOnlyAStarAloneIsAny(t *testing.T) {
	for _, c := range []struct {
		i    int
		word string
	}{
		{2, "*/1"}, {2, "*,*"}, {2, "1-31"}, {2, "*,1"}, {2, "1,*"}, {2, "1-31/1"}, {2, "*/01"},
		{4, "*/1"}, {4, "*,*"}, {4, "0-6"}, {4, "0-7"}, {4, "1-7"}, {4, "*,7"}, {4, "0,*"}, {4, "0-6/1"}, {4, "0,1,2,3,4,5,6"},
	} {
		want := every()
		want.AnyDay, want.AnyWeekday = c.i != 2, c.i != 4
		parses(t, withWord(c.i, c.word), want)
	}
	r := every()
	r.AnyDay, r.AnyWeekday = false, false
	parses(t, "* * 1-31 * 0-6", r)
	parses(t, "*/1 0-23 * 1-12 *", every())
}

func TestBlanksPartWords(t *testing.T) {
	want := Rule{2, 1 << 2, 1 << 3, 1 << 4, 1 << 5, false, false}
	for _, s := range []string{
		"1 2 3 4 5", "1  2   3    4     5", "1 2 3 4" + strings.Repeat(" ", 392) + "5",
		" 1 2 3 4 5", "1 2 3 4 5 ", "   1 2 3 4 5   ", strings.Repeat(" ", 391) + "1 2 3 4 5", "1 2 3 4 5" + strings.Repeat(" ", 391),
	} {
		parses(t, s, want)
	}
}

func TestParseRefusesOtherNumbersOfFields(t *testing.T) {
	for _, s := range []string{
		"", " ", "     ", strings.Repeat(" ", 400), "*", "* *", "* * *", "* * * *", " * * * * ", "* * * * * *", "* * * * * * *", " * * * * * * ",
		"*****", "*,*,*,*,*", "*\t*\t*\t*\t*", "*\n*\n*\n*\n*", "* * * *\t*", "*\u00a0* * * *", "* * * *\x00*", strings.Repeat("* ", 200),
	} {
		refuses(t, s, api.ErrCount)
	}
}

func TestParseOfLongTexts(t *testing.T) {
	for _, n := range []int{400, 399, 398} {
		// Minutes enough for all the room that there is.
		word := strings.Repeat("7,", (n-9)/2) + "7"
		s := word + " * * * *"
		s += strings.Repeat(" ", n-len(s))
		if len(s) != n {
			t.Fatal(len(s))
		}
		parses(t, s, withSet(every(), 0, 1<<7))
	}
	long := "* * * * *" + strings.Repeat(" ", 391)
	parses(t, long, every())
	for _, s := range []string{long + " ", " " + long, strings.Repeat("7,", 196) + "7 * * * *", strings.Repeat(" ", 401), strings.Repeat("x", 401), strings.Repeat("* ", 201), strings.Repeat(" ", 1<<24), strings.Repeat("*", 1<<24)} {
		refuses(t, s, api.ErrLong)
	}
}

func TestParseRefusesItems(t *testing.T) {
	for i, s := range [5][]string{
		{"60", "61", "99", "0-60", "59-60", "60-61", "60-60", "*/0", "1-2/0"},
		{"24", "25", "59", "0-24", "23-24", "24-24"},
		{"0", "00", "32", "0-1", "0-31", "1-32", "31-32", "0-0", "0-31/2"},
		{"0", "00", "13", "0-12", "1-13", "12-13", "13-13"},
		{"8", "9", "08", "0-8", "7-8", "6-8", "8-8", "7-0", "7-6", "7-1", "6-0", "6-5"},
	} {
		for _, word := range append(s, wrongItems()...) {
			refuses(t, withWord(i, word), api.ErrField)
			for _, good := range []string{"*", "3", "1-4/2"} {
				refuses(t, withWord(i, good+","+word), api.ErrField)
				refuses(t, withWord(i, word+","+good), api.ErrField)
			}
		}
	}
}

// wrongItems: what is no item of any field.
func wrongItems() []string {
	return []string{
		"x", "-1", "+1", "1.", "1.5", "0x1", "1e1", "1_", "MON", "JAN", "?", "L", "#", "@", "**", "1*", "*1", "_", "\u0661", "\xff", "\x00", "½",
		"001", "100", "003", "0003", "12345678901234567890", "1-003", "001-3", "1-100", "3-2", "2-1", "5-4/1", "4-3/2", "03-2",
		"-", "1-", "-3", "1--3", "1-2-3", "*-3", "1-*", "*-*", "1-2-", "--",
		"/", "*/", "/2", "1/2", "3/1", "3/", "1-4/", "*/0", "*/00", "1-4/0", "1-4/00", "*/100", "*/001", "1-4/100", "1-4/001", "*/-1", "*/+1", "*/x", "*/*", "*/1/1", "1-4/2/2", "*//2", "1-4//2", "*/1-2", "1/2-4", "*\t", "\t*", "1\t", "\t1", "1\n", "\r1", "1\v", "1\f", "1\u00a0", "1;2", "1:2",
	}
}

func TestParseRefusesEmptyItems(t *testing.T) {
	for i := range 5 {
		for _, word := range []string{",", ",,", "3,", ",3", "3,,3", "*,", ",*", "1-3,", ",1-3/2", "3,,", ",,3", "3,4,"} {
			refuses(t, withWord(i, word), api.ErrField)
		}
	}
}

func TestEachOctetInAText(t *testing.T) {
	for n := range 256 {
		for _, s := range []string{"1" + string([]byte{byte(n)}) + "3", string([]byte{byte(n)}) + "3", "1" + string([]byte{byte(n)}), "1-3" + string([]byte{byte(n)}) + "2", string([]byte{byte(n)})} {
			for i := range 5 {
				text := withWord(i, s)
				want, why := modelParse(text)
				if r, e := Parse(text); r != want || e != why {
					t.Errorf("P17.1: Parse(%q): %v, error %d; want %v, error %d", text, r, e, want, why)
				}
			}
		}
	}
}

func TestParseTellsTheFirstFault(t *testing.T) {
	blanks := strings.Repeat(" ", 401)
	for s, want := range map[string]api.Errno{
		"x" + blanks: api.ErrLong, blanks + "60 * * * *": api.ErrLong, "* * * *" + blanks: api.ErrLong, "x x x x x x" + blanks: api.ErrLong,
		"60": api.ErrCount, "x * * *": api.ErrCount, "* * * 13": api.ErrCount, "60 * * * * *": api.ErrCount, "* * * * * x": api.ErrCount, "* * * * 9 *": api.ErrCount, ", , , , , ,": api.ErrCount,
		"60 24 32 13 8": api.ErrField, ", * * * *": api.ErrField, "* * * * 8": api.ErrField,
	} {
		refuses(t, s, want)
	}
}

func TestParseOfAllItemsOfTwoNumbers(t *testing.T) {
	digits := func(n int) string { return string([]byte{byte('0' + n/10), byte('0' + n%10)}) }
	for i := range 5 {
		for n := range 100 {
			for m := range 100 {
				for _, word := range []string{digits(n), digits(n) + "-" + digits(m), "*/" + digits(m), digits(n) + "/" + digits(m), "1-" + digits(n) + "/" + digits(m), digits(n) + "," + digits(m)} {
					s := withWord(i, word)
					want, why := modelParse(s)
					if r, e := Parse(s); r != want || e != why {
						t.Fatalf("P17.1: Parse(%q): %v, error %d; want %v, error %d", s, r, e, want, why)
					}
				}
			}
		}
	}
}

// madeText: a text of pieces that mostly make a rule.
func madeText(rng *rand.Rand) string {
	items := []string{"*", "*/2", "*/15", "1", "5", "07", "3-5", "1-6/2", "12", "0", "7", "31", "59", "60", "x", "", "2-1", "1/2", "5-7"}
	var words []string
	for n := 5 + (rng.Intn(20)-2)/17; n > 0; n-- {
		word := items[rng.Intn(13)]
		for rng.Intn(3) == 0 {
			word += "," + items[rng.Intn(len(items))]
		}
		words = append(words, word+strings.Repeat(" ", rng.Intn(2)))
	}
	return strings.Join(words, " ")
}

func TestParseOfMadeTexts(t *testing.T) {
	rng := rand.New(rand.NewSource(171))
	took := 0
	for range 200000 {
		s := madeText(rng)
		want, why := modelParse(s)
		r, e := Parse(s)
		if r != want || e != why {
			t.Fatalf("P17.1: Parse(%q): %v, error %d; want %v, error %d", s, r, e, want, why)
		}
		if e == api.OK {
			took++
			if f := Check(r); f != api.OK {
				t.Fatalf("P17.1: Parse(%q): %v; Check of it: %d", s, r, f)
			}
		}
	}
	if took < 10000 {
		t.Errorf("P17.1: only %d texts were rules", took)
	}
}
