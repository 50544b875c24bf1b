package edit

import (
	"bytes"
	"fmt"
	"math"
	"reflect"
	"slices"
	"strconv"
	"strings"
	"testing"

	"tickler/api"
)

// The highest number of a table, and the highest number of a version.
const (
	lastID  = 2147483647
	lastSeq = 1099511627776
)

// table: a meta of three versions.
func table(id, level int, low, high string) Meta {
	return Meta{ID: id, Level: level, Count: 3, Low: low, High: high}
}

// of: a version of these tables, with a next ID above all that may be.
func of(tables ...Meta) Version {
	return Version{Tables: tables, Seq: 7, Next: lastID}
}

// long: a text of n octets.
func long(n int) string {
	return strings.Repeat("k", n)
}

// row: n tables of a level, from an ID on, none with a key in common.
func row(n, id, level int) []Meta {
	var l []Meta
	for i := range n {
		low := fmt.Sprintf("%03d", i)
		l = append(l, Meta{ID: id + i, Level: level, Count: 1 + i, Low: low, High: low + "z"})
	}
	if level == 0 {
		slices.Reverse(l)
	}
	return l
}

// levels: a version with tables on all levels; those of level 0 have keys in common.
func levels() Version {
	return Version{
		Tables: []Meta{
			table(9, 0, "a", "z"), table(8, 0, "b", "y"), table(3, 0, "a", "z"),
			table(5, 1, "a", "c"), table(1, 1, "d", "d"), table(6, 1, "da", "e"),
			table(7, 2, "a", "z"),
			table(2, 3, "0", "9"), table(4, 3, "a", "z"),
		},
		Seq: 1000, Next: 10,
	}
}

// versions: versions that may be.
func versions() map[string]Version {
	all := map[string]Version{
		"new":                   {Next: 1},
		"an empty list":         {Tables: []Meta{}, Seq: 1, Next: 2},
		"all at most":           {Seq: lastSeq, Next: lastID},
		"one":                   of(table(1, 0, "a", "b")),
		"one, all at least":     {Tables: []Meta{{1, 0, 1, "\x00", "\x00"}}, Next: 2},
		"one, all at most":      {Tables: []Meta{{lastID - 1, 3, 4096, long(96), long(96)}}, Seq: lastSeq, Next: lastID},
		"levels":                levels(),
		"level 0 by ID":         of(table(3, 0, "a", "b"), table(2, 0, "c", "d"), table(1, 0, "a", "a")),
		"level 0, all the same": of(table(3, 0, "a", "b"), table(2, 0, "a", "b"), table(1, 0, "a", "b")),
		"by Low, not by ID":     of(table(3, 1, "a", "b"), table(1, 1, "c", "d"), table(2, 1, "e", "f")),
		"just above":            of(table(1, 2, "a", "c"), table(2, 2, "c\x00", "d")),
		"octets":                of(table(1, 3, "\x00", "\x7f"), table(2, 3, "\x80", "\xc3\xa4"), table(3, 3, "\xff", "\xff\xff")),
		"one key on each level": of(table(1, 0, "a", "a"), table(2, 1, "a", "a"), table(3, 2, "a", "a"), table(4, 3, "a", "a")),
		"256 on all levels":     of(slices.Concat(row(64, 1, 0), row(64, 65, 1), row(64, 129, 2), row(64, 193, 3))...),
	}
	for level := range 4 {
		all[fmt.Sprint("256 on level ", level)] = of(row(256, 1, level)...)
	}
	return all
}

// unmade: versions that may not be.
func unmade() map[string]Version {
	all := map[string]Version{
		"zero":                              {},
		"Next 0":                            {Tables: nil, Seq: 1, Next: 0},
		"Next -1":                           {Next: -1},
		"Next 2^31":                         {Next: lastID + 1},
		"Next at least":                     {Next: math.MinInt},
		"Next at most":                      {Next: math.MaxInt},
		"Seq -1":                            {Seq: -1, Next: 1},
		"Seq 2^40 + 1":                      {Seq: lastSeq + 1, Next: 1},
		"Seq at least":                      {Seq: math.MinInt, Next: 1},
		"Seq at most":                       {Seq: math.MaxInt, Next: 1},
		"an ID equal to Next":               {Tables: []Meta{table(5, 1, "a", "b")}, Next: 5},
		"an ID above Next":                  {Tables: []Meta{table(5, 1, "a", "b")}, Next: 4},
		"the first ID above Next":           {Tables: []Meta{table(5, 0, "a", "b"), table(4, 0, "a", "b")}, Next: 5},
		"257 tables":                        of(slices.Concat(row(65, 1, 0), row(64, 66, 1), row(64, 130, 2), row(64, 194, 3))...),
		"a level below the one ahead":       of(table(1, 1, "a", "b"), table(2, 0, "c", "d")),
		"level 3 ahead of 2":                of(table(1, 3, "a", "b"), table(2, 2, "c", "d")),
		"level 0 rising":                    of(table(1, 0, "a", "b"), table(2, 0, "c", "d")),
		"level 0 rising at the end":         of(table(3, 0, "a", "b"), table(1, 0, "a", "b"), table(2, 0, "a", "b")),
		"by ID, not by Low":                 of(table(2, 1, "c", "d"), table(1, 1, "a", "b")),
		"out of order at the end":           of(table(1, 2, "a", "a"), table(2, 2, "c", "c"), table(3, 2, "b", "b")),
		"one ID twice on level 0":           of(table(2, 0, "a", "b"), table(2, 0, "c", "d")),
		"one ID twice on level 1":           of(table(2, 1, "a", "b"), table(2, 1, "c", "d")),
		"one ID twice, not side by side":    of(table(2, 1, "a", "b"), table(1, 1, "c", "d"), table(2, 1, "e", "f")),
		"one ID twice, on levels 0 and 1":   of(table(2, 0, "a", "b"), table(2, 1, "c", "d")),
		"one ID twice, on levels 0 and 3":   of(table(2, 0, "a", "b"), table(1, 1, "a", "b"), table(2, 3, "c", "d")),
		"the same table twice on level 0":   of(table(1, 0, "a", "b"), table(1, 0, "a", "b")),
		"the same table twice on level 1":   of(table(1, 1, "a", "b"), table(1, 1, "a", "b")),
		"the example":                       of(table(1, 1, "a", "c"), table(2, 1, "b", "d")),
		"the example at the end of level 1": of(table(3, 0, "a", "z"), table(4, 1, "0", "9"), table(1, 1, "a", "c"), table(2, 1, "b", "d"), table(5, 2, "a", "z")),
	}
	for level := range 4 {
		all[fmt.Sprint("257 on level ", level)] = of(row(257, 1, level)...)
		if level == 0 {
			continue
		}
		for what, low := range map[string]string{"High equal to the next Low": "c", "High above the next Low": "bz", "one Low twice": "a", "one within the other": "b"} {
			high := low + "\xff"
			if what == "one within the other" {
				high = low
			}
			all[fmt.Sprint("level ", level, ", ", what)] = of(table(1, level, "a", "c"), table(2, level, low, high))
		}
	}
	for what, m := range wrongMetas() {
		all[what] = of(m)
		all[what+", behind another"] = of(table(7, 0, "a", "b"), m)
		all[what+", ahead of another"] = of(m, table(7, 3, "zz", "zzz"))
	}
	return all
}

// wrongMetas: metas that may not be; each but one thing of it may.
func wrongMetas() map[string]Meta {
	return map[string]Meta{
		"zero":             {},
		"ID 0":             table(0, 1, "a", "b"),
		"ID -1":            table(-1, 1, "a", "b"),
		"ID at least":      table(math.MinInt, 1, "a", "b"),
		"ID 2^31 - 1":      table(lastID, 1, "a", "b"),
		"ID 2^31":          table(lastID+1, 1, "a", "b"),
		"ID at most":       table(math.MaxInt, 1, "a", "b"),
		"Level -1":         table(1, -1, "a", "b"),
		"Level 4":          table(1, 4, "a", "b"),
		"Level at least":   table(1, math.MinInt, "a", "b"),
		"Level at most":    table(1, math.MaxInt, "a", "b"),
		"Count 0":          {1, 1, 0, "a", "b"},
		"Count -1":         {1, 1, -1, "a", "b"},
		"Count 4097":       {1, 1, 4097, "a", "b"},
		"Count at least":   {1, 1, math.MinInt, "a", "b"},
		"Count at most":    {1, 1, math.MaxInt, "a", "b"},
		"no Low":           table(1, 1, "", "b"),
		"no High":          table(1, 1, "a", ""),
		"no Low, no High":  table(1, 1, "", ""),
		"Low of 97":        table(1, 1, long(97), "z"),
		"High of 97":       table(1, 1, "a", long(97)),
		"both of 97":       table(1, 1, long(97), long(97)),
		"Low above High":   table(1, 1, "b", "a"),
		"Low begins so":    table(1, 1, "ab", "a"),
		"Low by one octet": table(1, 1, "a\x00", "a"),
		"a High octet":     table(1, 1, "\xff", "\x7f"),
	}
}

// modelMeta: may m be? As the chapter's words say it.
func modelMeta(m Meta) bool {
	key := func(s string) bool { return s != "" && len(s) < 97 }
	return m.ID > 0 && m.ID < 1<<31 && slices.Contains([]int{0, 1, 2, 3}, m.Level) && m.Count > 0 && m.Count < 4097 &&
		key(m.Low) && key(m.High) && strings.Compare(m.Low, m.High) != 1
}

// modelPair: may b stand somewhere behind a, all of one version held against all?
func modelPair(a, b Meta) bool {
	if a.ID == b.ID || a.Level > b.Level {
		return false
	}
	if a.Level < b.Level {
		return true
	}
	if a.Level == 0 {
		return a.ID > b.ID
	}
	return a.Low < b.Low && (a.High < b.Low || b.High < a.Low)
}

// modelCheck: what Check should answer.
func modelCheck(v Version) api.Errno {
	if len(v.Tables) >= 257 || v.Next <= 0 || v.Next >= 1<<31 || v.Seq < 0 || v.Seq-1 >= 1<<40 {
		return api.ErrState
	}
	for i, m := range v.Tables {
		if !modelMeta(m) || m.ID >= v.Next {
			return api.ErrState
		}
		for _, a := range v.Tables[:i] {
			if !modelPair(a, m) {
				return api.ErrState
			}
		}
	}
	return api.OK
}

// laidOut: the tables so that each has all behind it that should be; one that fits nowhere is put at the end.
func laidOut(tables []Meta) []Meta {
	var l []Meta
	for _, m := range tables {
		at := slices.IndexFunc(l, func(b Meta) bool { return modelPair(m, b) })
		if at < 0 {
			at = len(l)
		}
		l = slices.Insert(l, at, m)
	}
	return l
}

// modelApply: what Apply should answer.
func modelApply(v Version, e Edit) (Version, api.Errno) {
	if modelCheck(v) != api.OK {
		return Version{}, api.ErrState
	}
	left := slices.Clone(v.Tables)
	for _, id := range e.Drop {
		at := slices.IndexFunc(left, func(m Meta) bool { return m.ID == id })
		if at < 0 {
			return Version{}, api.ErrNone
		}
		left = slices.Delete(left, at, at+1)
	}
	if e.Seq < v.Seq || e.Next < v.Next {
		return Version{}, api.ErrRange
	}
	if len(left)+len(e.Add) > 256 {
		return Version{}, api.ErrState
	}
	w := Version{Tables: laidOut(append(left, e.Add...)), Seq: e.Seq, Next: e.Next}
	if modelCheck(w) != api.OK {
		return Version{}, api.ErrState
	}
	return w, api.OK
}

// sameVersion tells whether two versions are the same; nil and empty lists are one.
func sameVersion(a, b Version) bool {
	return a.Seq == b.Seq && a.Next == b.Next && slices.Equal(a.Tables, b.Tables)
}

// sameEdit tells whether two edits are the same; nil and empty lists are one.
func sameEdit(a, b Edit) bool {
	return a.Seq == b.Seq && a.Next == b.Next && slices.Equal(a.Drop, b.Drop) && slices.Equal(a.Add, b.Add)
}

// noVersion tells whether v is what stands beside an error.
func noVersion(v Version) bool { return sameVersion(v, Version{}) }

// noEdit tells whether e is what stands beside an error.
func noEdit(e Edit) bool { return sameEdit(e, Edit{}) }

// wide: n in k octets, as few as will do or more; spelled in ones and noughts.
func wide(n uint64, k int) []byte {
	text := strings.Repeat("1", k-1) + "0" + fmt.Sprintf("%0*b", 7*k, n)
	if k == 9 {
		text = strings.Repeat("1", 8) + fmt.Sprintf("%064b", n)
	}
	var b []byte
	for ; text != ""; text = text[8:] {
		x, _ := strconv.ParseUint(text[:8], 2, 8)
		b = append(b, byte(x))
	}
	return b
}

// number: n in as few octets as will do.
func number(n uint64) []byte {
	k := 1
	for k < 9 && n>>(7*k) != 0 {
		k++
	}
	return wide(n, k)
}

// numbers: one behind the other.
func numbers(l ...int) []byte {
	var b []byte
	for _, n := range l {
		b = append(b, number(uint64(n))...)
	}
	return b
}

// laidMeta: the octets of a meta.
func laidMeta(m Meta) []byte {
	return slices.Concat(numbers(m.ID, m.Level, m.Count, len(m.Low)), []byte(m.Low), numbers(len(m.High)), []byte(m.High))
}

// laid: the octets of an edit, without Encode.
func laid(e Edit) []byte {
	b := slices.Concat(numbers(e.Seq, e.Next, len(e.Drop)), numbers(e.Drop...), numbers(len(e.Add)))
	for _, m := range e.Add {
		b = append(b, laidMeta(m)...)
	}
	return b
}

// edges: the numbers at which more octets are needed, or which are the last that may be.
func edges() []int {
	return []int{0, 1, 2, 95, 96, 97, 126, 127, 128, 255, 256, 257, 16383, 16384, 1<<21 - 1, 1 << 21, 1<<28 - 1, 1 << 28, 1<<31 - 1, 1 << 31, 1<<32 - 1, 1 << 32, 1<<35 - 1, 1 << 35, 1<<40 - 1, 1 << 40}
}

// counted: n numbers.
func counted(n int) []int {
	var l []int
	for i := range n {
		l = append(l, 3*i)
	}
	return l
}

// edits: edits that have octets.
func edits() map[string]Edit {
	all := map[string]Edit{
		"zero":              {},
		"empty lists":       {Drop: []int{}, Add: []Meta{}, Seq: 1, Next: 2},
		"Seq and Next":      {Seq: 3, Next: 4},
		"one dropped":       {Drop: []int{1}, Next: 2},
		"one dropped twice": {Drop: []int{5, 5}, Next: 2},
		"one added":         {Add: []Meta{table(1, 1, "a", "c")}, Next: 3},
		"both":              {Drop: []int{4, 1, 3}, Add: []Meta{table(1, 1, "a", "c"), table(2, 0, "b", "d")}, Seq: 300, Next: 3},
		"out of order":      {Add: []Meta{table(1, 3, "x", "z"), table(9, 0, "b", "d"), table(9, 0, "b", "d")}, Seq: 300, Next: 3},
		"numbers at most":   {Drop: []int{lastSeq, 0, lastSeq}, Add: []Meta{{lastSeq, lastSeq, lastSeq, "", ""}}, Seq: lastSeq, Next: lastSeq},
		"a zero meta":       {Add: []Meta{{}}},
		"all edges":         {Drop: edges(), Seq: 128, Next: 16384},
		"256 dropped":       {Drop: counted(256), Next: 1},
		"256 added":         {Add: row(256, 1, 2), Next: 257},
		"256 of both":       {Drop: counted(256), Add: row(256, 1, 0), Seq: lastSeq, Next: lastID},
		"octets":            {Add: []Meta{table(1, 1, "\x00", "\xff\xfe"), table(2, 2, "\x01\x01", "\xc3")}, Next: 9},
	}
	for _, n := range edges() {
		all[fmt.Sprint("of ", n)] = Edit{Drop: []int{n}, Add: []Meta{{n, 1, 2, "a", "b"}, {1, n, 2, "a", "b"}, {1, 2, n, "a", "b"}}, Seq: n, Next: n}
	}
	for _, n := range []int{0, 1, 2, 95, 96} {
		all[fmt.Sprint("texts of ", n)] = Edit{Add: []Meta{table(1, 1, long(n), "b"), table(1, 1, "a", long(n)), table(1, 1, long(n), long(n))}}
	}
	for what, v := range versions() {
		all["whole: "+what] = Edit{Add: v.Tables, Seq: v.Seq, Next: v.Next}
	}
	return all
}

// modelEncode: what Encode should answer.
func modelEncode(e Edit) ([]byte, api.Errno) {
	if len(e.Drop) >= 257 || len(e.Add) >= 257 {
		return nil, api.ErrCount
	}
	all := append([]int{e.Seq, e.Next}, e.Drop...)
	longest := 0
	for _, m := range e.Add {
		all = append(all, m.ID, m.Level, m.Count)
		longest = max(longest, len(m.Low), len(m.High))
	}
	if slices.Min(all) < 0 || slices.Max(all) > 1<<40 || longest > 96 {
		return nil, api.ErrArg
	}
	return laid(e), api.OK
}

// modelNumber: the number at the beginning of b, what is behind it, and why it is none.
func modelNumber(b []byte) (uint64, []byte, api.Errno) {
	if len(b) == 0 {
		return 0, nil, api.ErrShort
	}
	ones := 0
	for ones < 8 && b[0]&(0x80>>ones) != 0 {
		ones++
	}
	if ones >= len(b) {
		return 0, nil, api.ErrShort
	}
	n := uint64(b[0]) & (0x7f >> ones)
	for _, x := range b[1 : ones+1] {
		n = n<<8 | uint64(x)
	}
	if ones > 0 && n < 1<<(7*ones) {
		return 0, nil, api.ErrRange
	}
	if n > 1<<40 {
		return 0, nil, api.ErrArg
	}
	return n, b[ones+1:], api.OK
}

// modelList: the numbers at the beginning of b that a count tells, so many for one, with texts behind the numbers of each; and what is behind them.
func modelList(b []byte, each, texts int) (ns [][]int, ts [][]string, left []byte, why api.Errno) {
	count, b, why := modelNumber(b)
	if why == api.OK && count > 256 {
		why = api.ErrCount
	}
	for ; why == api.OK && count > 0; count-- {
		var n []int
		var t []string
		for j := 0; j < each+texts; j++ {
			var x uint64
			if x, b, why = modelNumber(b); why != api.OK {
				return nil, nil, nil, why
			}
			if j < each {
				n = append(n, int(x))
				continue
			}
			if x > 96 {
				return nil, nil, nil, api.ErrArg
			}
			if x > uint64(len(b)) {
				return nil, nil, nil, api.ErrShort
			}
			t, b = append(t, string(b[:x])), b[x:]
		}
		ns, ts = append(ns, n), append(ts, t)
	}
	return ns, ts, b, why
}

// modelDecode: what Decode should answer.
func modelDecode(b []byte) (Edit, api.Errno) {
	seq, b, why := modelNumber(b)
	if why != api.OK {
		return Edit{}, why
	}
	next, b, why := modelNumber(b)
	if why != api.OK {
		return Edit{}, why
	}
	drop, _, b, why := modelList(b, 1, 0)
	if why != api.OK {
		return Edit{}, why
	}
	add, texts, b, why := modelList(b, 3, 2)
	if why != api.OK {
		return Edit{}, why
	}
	if len(b) > 0 {
		return Edit{}, api.ErrTail
	}
	e := Edit{Seq: int(seq), Next: int(next)}
	for _, n := range drop {
		e.Drop = append(e.Drop, n[0])
	}
	for i, n := range add {
		e.Add = append(e.Add, Meta{n[0], n[1], n[2], texts[i][0], texts[i][1]})
	}
	return e, api.OK
}

// P1 of DOC.md: whatever is given, the calls answer as the chapter says.

func FuzzAnyOctets(f *testing.F) {
	for _, e := range edits() {
		f.Add(laid(e))
	}
	f.Add([]byte{})
	f.Add(bytes.Repeat([]byte{0xff}, 40))
	f.Add([]byte{0, 1, 0, 1, 1, 1, 1, 97})
	f.Add([]byte{0, 1, 0, 1, 1, 1, 1, 1, 'a', 3, 'b', 'c'})
	f.Add([]byte{0, 1, 0x81, 0})
	f.Fuzz(func(t *testing.T, b []byte) {
		want, why := modelDecode(b)
		got, e := Decode(b)
		if e != why || !sameEdit(got, want) {
			t.Fatalf("P11.2: Decode(%x): %v, error %d; want %v, error %d", b, got, e, want, why)
		}
		if e != api.OK {
			return
		}
		if again, e := Encode(got); e != api.OK || !bytes.Equal(again, b) {
			t.Fatalf("P11.3: Decode took %x, but Encode of it is %x, error %d", b, again, e)
		}
	})
}

// drawnNumber: one that is often near an edge.
func drawnNumber(x byte) int {
	some := []int{-1, 0, 1, 2, 3, 4, 5, 6, 95, 96, 97, 4095, 4096, 4097, lastID - 1, lastID, lastID + 1, lastSeq - 1, lastSeq, lastSeq + 1, math.MinInt, math.MaxInt}
	if x < 200 {
		return int(x % 8)
	}
	return some[int(x)%len(some)]
}

// drawnText: mostly a short one.
func drawnText(x byte) string {
	if x > 250 {
		return long(int(x) - 157)
	}
	return strings.Repeat(string([]byte{'a' + x%5}), int(x/5)%4)
}

// drawnMetas: metas that the octets tell, many of which may not be.
func drawnMetas(b []byte) []Meta {
	var l []Meta
	for ; len(b) >= 5; b = b[5:] {
		l = append(l, Meta{drawnNumber(b[0]), drawnNumber(b[1] / 2), drawnNumber(b[2]), drawnText(b[3]), drawnText(b[4])})
	}
	return l
}

func FuzzAnyEdit(f *testing.F) {
	f.Add([]byte{}, []byte{}, []byte{}, byte(0), byte(1), byte(0), byte(1))
	f.Add([]byte{1, 2, 3, 5, 6, 2, 2, 3, 7, 7}, []byte{1}, []byte{4, 2, 3, 5, 8}, byte(0), byte(5), byte(3), byte(6))
	f.Add([]byte{1, 0, 1, 5, 6, 2, 0, 3, 5, 7}, []byte{1, 2}, []byte{4, 2, 3, 5, 8, 1, 0, 3, 6, 9}, byte(0), byte(5), byte(0), byte(5))
	f.Add([]byte{1, 1, 1, 5, 6}, []byte{1, 1}, []byte{1, 0, 1, 5, 5}, byte(0), byte(5), byte(0), byte(4))
	f.Fuzz(func(t *testing.T, tables, drop, add []byte, seq, next, seq2, next2 byte) {
		v := Version{Tables: drawnMetas(tables), Seq: drawnNumber(seq), Next: drawnNumber(next)}
		for _, x := range []Version{v, {laidOut(v.Tables), v.Seq, v.Next}} {
			if e, why := Check(x), modelCheck(x); e != why {
				t.Fatalf("P11.1: Check(%v): error %d; want %d", x, e, why)
			}
		}
		d := Edit{Add: drawnMetas(add), Seq: drawnNumber(seq2), Next: drawnNumber(next2)}
		for _, x := range drop {
			d.Drop = append(d.Drop, drawnNumber(x))
		}
		v.Tables = laidOut(v.Tables)
		applied(t, "any edit", v, d)
		encoded(t, "any edit", d)
		asked(t, "any version", v)
	})
}

// applied fails unless Apply answers what the model does.
func applied(t *testing.T, what string, v Version, d Edit) {
	t.Helper()
	want, why := modelApply(v, d)
	if got, e := Apply(v, d); e != why || !sameVersion(got, want) {
		t.Errorf("P11.1: %s: Apply(%v, %v): %v, error %d; want %v, error %d", what, v, d, got, e, want, why)
	}
}

// encoded fails unless Encode answers what the model does, and Decode of it is the edit.
func encoded(t *testing.T, what string, d Edit) {
	t.Helper()
	want, why := modelEncode(d)
	b, e := Encode(d)
	if e != why || !bytes.Equal(b, want) {
		t.Errorf("P11.2: %s: Encode(%v): %x, error %d; want %x, error %d", what, d, b, e, want, why)
	}
	if e != api.OK {
		return
	}
	if back, e := Decode(b); e != api.OK || !sameEdit(back, d) {
		t.Errorf("P11.3: %s: Decode of Encode of %v: %v, error %d", what, d, back, e)
	}
}

// asked fails unless Whole and At of v answer what the chapter says.
func asked(t *testing.T, what string, v Version) {
	t.Helper()
	why := modelCheck(v)
	whole, e := Whole(v)
	if e != why || e != api.OK && !noEdit(whole) || e == api.OK && !sameEdit(whole, Edit{Add: v.Tables, Seq: v.Seq, Next: v.Next}) {
		t.Errorf("P11.2: %s: Whole(%v): %v, error %d; want error %d", what, v, whole, e, why)
	}
	if e == api.OK {
		if got, e := Apply(New(), whole); e != api.OK || !sameVersion(got, v) {
			t.Errorf("P11.4: %s: Apply of Whole of %v to New(): %v, error %d", what, v, got, e)
		}
	}
	for _, level := range []int{math.MinInt, -4, -1, 0, 1, 2, 3, 4, 5, 256, 1 << 32, math.MaxInt} {
		var want []Meta
		for _, m := range v.Tables {
			if why == api.OK && m.Level == level {
				want = append(want, m)
			}
		}
		if l, e := At(v, level); e != why || !slices.Equal(l, want) {
			t.Errorf("P11.2: %s: At(%v, %d): %v, error %d; want %v, error %d", what, v, level, l, e, want, why)
		}
	}
}

// TestModelsHold: the lists of what may be and what may not are what the model says.
func TestModelsHold(t *testing.T) {
	for what, v := range versions() {
		if e := modelCheck(v); e != api.OK {
			t.Errorf("the model refuses %s: error %d", what, e)
		}
	}
	for what, v := range unmade() {
		if e := modelCheck(v); e != api.ErrState {
			t.Errorf("the model takes %s: error %d", what, e)
		}
	}
	for what, d := range edits() {
		if got, e := modelDecode(laid(d)); e != api.OK || !sameEdit(got, d) {
			t.Errorf("the model reads %s as %v, error %d", what, got, e)
		}
	}
	if !reflect.DeepEqual(laidOut(levels().Tables), levels().Tables) {
		t.Error("the model lays tables out in another order")
	}
}
