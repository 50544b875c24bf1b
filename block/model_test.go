package block

import (
	"bytes"
	"fmt"
	"slices"
	"strconv"
	"strings"
	"testing"

	"tickler/api"
	"tickler/sum"
)

// put: a version with a value.
func put(key string, seq int) api.Entry {
	return api.Entry{Key: key, Seq: seq, Kind: 1, Value: key + strconv.Itoa(seq)}
}

// holds: a version with that value.
func holds(key string, seq int, value string) api.Entry {
	return api.Entry{Key: key, Seq: seq, Kind: 1, Value: value}
}

// gone: a version of a key that is gone.
func gone(key string, seq int) api.Entry {
	return api.Entry{Key: key, Seq: seq, Kind: 2}
}

// example: the versions of the chapter's example.
func example() []api.Entry {
	return []api.Entry{holds("ab", 2, ""), holds("abc", 1, "v")}
}

// many: n versions in order, of keys with much in common, some gone, some of one key.
func many(n int) []api.Entry {
	var l []api.Entry
	for i := range n {
		x := put(fmt.Sprintf("key/%02d", i/2), 100-i)
		if i%5 == 3 {
			x = gone(x.Key, x.Seq)
		}
		l = append(l, x)
	}
	return l
}

// longest: n versions, each as long as one may be; their keys differ at the end alone.
func longest(n int) []api.Entry {
	var l []api.Entry
	for i := range n {
		l = append(l, holds(strings.Repeat("k", 94)+fmt.Sprintf("%02d", i), 1<<40, strings.Repeat("v", 512)))
	}
	return l
}

// widest: n versions whose keys have nothing in common, each as long as one may be: no block has more octets.
func widest(n int) []api.Entry {
	var l []api.Entry
	for i := range n {
		l = append(l, holds(strings.Repeat(string([]byte{byte(i * 3)}), 96), 1<<40, strings.Repeat("\xff", 512)))
	}
	return l
}

// oneKey: n versions of one key.
func oneKey(n int) []api.Entry {
	var l []api.Entry
	for i := range n {
		l = append(l, put("one key", 3*(n-i)))
	}
	return l
}

// growing: n versions, each key one octet longer than the one ahead.
func growing(n int) []api.Entry {
	var l []api.Entry
	for i := range n {
		l = append(l, gone(strings.Repeat("g", i+1), i+1))
	}
	return l
}

// edges: the lengths and numbers at which more octets are needed, or which are the last that may be.
func edges() []api.Entry {
	var l []api.Entry
	for i, seq := range []int{1, 2, 127, 128, 16383, 16384, 1<<21 - 1, 1 << 21, 1<<28 - 1, 1 << 28, 1<<35 - 1, 1 << 35, 1<<40 - 1, 1 << 40} {
		l = append(l, gone("s"+string(rune('a'+i)), seq))
	}
	for i, n := range []int{0, 1, 2, 126, 127, 128, 129, 255, 256, 257, 511, 512} {
		l = append(l, holds("v"+string(rune('a'+i)), 1, strings.Repeat("\x00", n)))
	}
	for _, n := range []int{1, 2, 3, 95, 96} {
		l = append(l, holds(strings.Repeat("w", n), 5, "x"))
	}
	return l
}

// lists: versions that may stand in a block.
func lists() map[string][]api.Entry {
	l := map[string][]api.Entry{
		"the example":       example(),
		"one gone":          {gone("a", 1)},
		"one without value": {holds("a", 1, "")},
		"one, all at most":  longest(1),
		"edges":             edges(),
		"octets":            {put("\x00", 1), put("\x00\x00", 1), put("\x00\xff", 2), put("\x00\xff", 1), put("\x7f", 1), put("\x80", 1), put("\xc3\xa4", 1), put("\xff", 9), put("\xff\xff", 1)},
		"numbers as octets": {holds("\x02", 2, "\x01"), holds("\x02\x01", 1, "\x01\x01"), gone("\x02\x02", 1)},
	}
	for _, n := range []int{1, 2, 3, 4, 5, 7, 8, 9, 12, 13, 16, 17, 60, 61, 63, 64} {
		for what, list := range map[string]func(int) []api.Entry{"many": many, "longest": longest, "widest": widest, "one key": oneKey, "growing": growing} {
			l[fmt.Sprint(what, " ", n)] = list(n)
		}
	}
	return l
}

// stands: may a node have x? Reckoned without skip.
func stands(x api.Entry) bool {
	room := map[int]int{1: 512, 2: 0}
	longest, kind := room[x.Kind]
	return kind && len(x.Value) <= longest && x.Key != "" && len(x.Key) < 97 && x.Seq > 0 && x.Seq-1 < 1<<40
}

// modelCheck: what Check should answer.
func modelCheck(l []api.Entry) api.Errno {
	if len(l) == 0 || len(l) >= 65 {
		return api.ErrCount
	}
	for i, x := range l {
		if !stands(x) {
			return api.ErrArg
		}
		if i == 0 {
			continue
		}
		keys := strings.Compare(l[i-1].Key, x.Key)
		if keys > 0 || keys == 0 && l[i-1].Seq <= x.Seq {
			return api.ErrOrder
		}
	}
	return api.OK
}

// wide: n in k octets, as few as will do or more; spelled in ones and noughts.
func wide(n uint64, k int) []byte {
	text := strings.Repeat("1", k-1) + "0" + fmt.Sprintf("%0*b", 7*k, n)
	if k == 9 {
		text = strings.Repeat("1", 8) + fmt.Sprintf("%064b", n)
	}
	var b []byte
	for ; text != ""; text = text[8:] {
		x, _ := strconv.ParseUint(text[:8], 2, 8)
		b = append(b, byte(x))
	}
	return b
}

// number: n in as few octets as will do.
func number(n uint64) []byte {
	k := 1
	for k < 9 && n>>(7*k) != 0 {
		k++
	}
	return wide(n, k)
}

// row is a version as it is written: its four numbers, its kind, what is left of its key, its value.
type row struct {
	common, left, seq, length []byte
	kind                      byte
	rest, value               string
}

func (r row) octets() []byte {
	return slices.Concat(r.common, r.left, r.seq, r.length, []byte{r.kind}, []byte(r.rest), []byte(r.value))
}

// rowOf: a version of which that many octets are in common.
func rowOf(x api.Entry, common int) row {
	rest := x.Key[common:]
	return row{number(uint64(common)), number(uint64(len(rest))), number(uint64(x.Seq)), number(uint64(len(x.Value))), byte(x.Kind), rest, x.Value}
}

// shared: how many octets two keys have in common.
func shared(a, b string) int {
	for n := min(len(a), len(b)); n > 0; n-- {
		if a[:n] == b[:n] {
			return n
		}
	}
	return 0
}

// commonOf: how many octets the key of version i is written to have in common.
func commonOf(l []api.Entry, i int) int {
	if i%4 == 0 {
		return 0
	}
	return shared(l[i-1].Key, l[i].Key)
}

// rowsOf: the versions as they are written.
func rowsOf(l []api.Entry) []row {
	var r []row
	for i, x := range l {
		r = append(r, rowOf(x, commonOf(l, i)))
	}
	return r
}

// body: the octets of rows, and where each fourth one begins.
func body(rows []row) (b []byte, starts []int) {
	for i, r := range rows {
		if i%4 == 0 {
			starts = append(starts, len(b))
		}
		b = append(b, r.octets()...)
	}
	return b, starts
}

// joined: what is guarded of a block with this body, these starts, and that number of them.
func joined(b []byte, starts []int, count byte) []byte {
	b = slices.Clone(b)
	for _, s := range starts {
		b = append(b, byte(s/256), byte(s%256))
	}
	return append(b, count)
}

// bareOf: what is guarded of a block of these rows.
func bareOf(rows []row) []byte {
	b, starts := body(rows)
	return joined(b, starts, byte(len(starts)))
}

// laid: the block of l, without Encode.
func laid(l []api.Entry) []byte {
	return sum.Guard(bareOf(rowsOf(l)))
}

// modelNumber: the number at the beginning of b, what is behind it, and whether it is one, written in as few octets as will do.
func modelNumber(b []byte) (uint64, []byte, bool) {
	if len(b) == 0 {
		return 0, nil, false
	}
	ones := 0
	for ones < 8 && b[0]&(0x80>>ones) != 0 {
		ones++
	}
	if ones >= len(b) {
		return 0, nil, false
	}
	n := uint64(b[0]) & (0x7f >> ones)
	for _, x := range b[1 : ones+1] {
		n = n<<8 | uint64(x)
	}
	return n, b[ones+1:], ones == 0 || n >= 1<<(7*ones)
}

// modelVersion: the version at the beginning of b, the i-th, behind one of that key, and what is behind it.
func modelVersion(b []byte, i int, ahead string) (x api.Entry, behind []byte, ok bool) {
	var n [4]uint64
	for j := range n {
		if n[j], b, ok = modelNumber(b); !ok || n[j] > 1<<40 {
			return x, nil, false
		}
	}
	common, left, length := int(n[0]), int(n[1]), int(n[3])
	if common > len(ahead) || i%4 == 0 && common > 0 || len(b) < 1+left+length {
		return x, nil, false
	}
	x = api.Entry{Key: ahead[:common] + string(b[1:1+left]), Seq: int(n[2]), Kind: int(b[0]), Value: string(b[1+left : 1+left+length])}
	if i%4 > 0 && shared(x.Key, ahead) != common || !stands(x) {
		return x, nil, false
	}
	return x, b[1+left+length:], true
}

// modelDecode: what Decode should answer; rule by rule, without writing the versions again.
func modelDecode(b []byte) ([]api.Entry, api.Errno) {
	bare, e := sum.Bare(b)
	if e != api.OK {
		return nil, e
	}
	if len(bare) == 0 {
		return nil, api.ErrCorrupt
	}
	starts := int(bare[len(bare)-1])
	end := len(bare) - 1 - 2*starts
	if end <= 0 {
		return nil, api.ErrCorrupt
	}
	var l []api.Entry
	ahead := ""
	for left := bare[:end]; len(left) > 0; {
		if i := len(l); i%4 == 0 {
			at := end + i/4*2
			if i/4 >= starts || int(bare[at])*256+int(bare[at+1]) != end-len(left) {
				return nil, api.ErrCorrupt
			}
		}
		x, behind, ok := modelVersion(left, len(l), ahead)
		if !ok || len(l) == 64 {
			return nil, api.ErrCorrupt
		}
		l, left, ahead = append(l, x), behind, x.Key
	}
	if modelCheck(l) != api.OK || starts != (len(l)+3)/4 {
		return nil, api.ErrCorrupt
	}
	return l, api.OK
}

// modelSeek: the version that Seek should tell: of all that fit, the one with the greatest number.
func modelSeek(l []api.Entry, key string, seq int) (x api.Entry, ok bool) {
	for _, y := range l {
		if y.Key == key && y.Seq <= seq && (!ok || y.Seq > x.Seq) {
			x, ok = y, true
		}
	}
	return x, ok
}

// agreed fails unless Decode and Seek of b answer what the models do.
func agreed(t *testing.T, what string, b []byte, key string, seq int) {
	t.Helper()
	want, wrong := modelDecode(b)
	l, e := Decode(b)
	if e != wrong || !slices.Equal(l, want) {
		t.Fatalf("P9.1: Decode, %s (%x): %v, error %d; want %v, error %d", what, b, l, e, want, wrong)
	}
	if e == api.OK {
		if again, e := Encode(l); e != api.OK || !bytes.Equal(again, b) {
			t.Fatalf("P9.2: Decode took %x, but Encode of it is %x, error %d", b, again, e)
		}
	}
	y, there := modelSeek(want, key, seq)
	if x, ok, e := Seek(b, key, seq); x != y || ok != there || e != wrong {
		t.Fatalf("P9.1: Seek(%q, %d), %s (%x): %v, %t, error %d; want %v, %t, error %d", key, seq, what, b, x, ok, e, y, there, wrong)
	}
}

// P1 of DOC.md: whatever is given, the calls answer as the chapter says.

func FuzzAnyOctets(f *testing.F) {
	for _, l := range [][]api.Entry{example(), many(1), many(9), oneKey(5), growing(8), longest(2), edges()} {
		f.Add(bareOf(rowsOf(l)), l[0].Key, l[0].Seq)
	}
	f.Add([]byte{}, "", 0)
	f.Add([]byte{0}, "a", 1)
	f.Add([]byte{0, 0, 1}, "a", -1)
	f.Add(bytes.Repeat([]byte{0xff}, 600), "a", 1)
	f.Fuzz(func(t *testing.T, b []byte, key string, seq int) {
		agreed(t, "any octets", b, key, seq)
		agreed(t, "any octets, guarded", sum.Guard(b), key, seq)
	})
}

// drawn: versions that the octets tell, many of which may not stand, or not there.
func drawn(b []byte) []api.Entry {
	var l []api.Entry
	for ; len(b) >= 4 && len(l) < 70; b = b[4:] {
		x := api.Entry{Key: strings.Repeat(string(b[:1]), int(b[1]%5)) + string(b[2:3]), Seq: int(b[3] & 63), Kind: int(b[3]>>6) % 3}
		if x.Kind == 1 {
			x.Value = strings.Repeat("v", int(b[1]>>4))
		}
		if b[1] == 255 {
			x.Key = strings.Repeat(string(b[:1]), int(b[2]))
		}
		l = append(l, x)
	}
	return l
}

func FuzzAnyVersions(f *testing.F) {
	f.Add([]byte("a\x01b\x41a\x01c\x42b\x02b\x83"), false)
	f.Add([]byte("a\x01b\x41a\x01b\x42b\x02b\x83"), true)
	f.Add(bytes.Repeat([]byte("a\x10b\x41b\x01c\x42"), 40), true)
	f.Add([]byte("a\xffa\x41a\xff\x60\x42"), false)
	f.Fuzz(func(t *testing.T, b []byte, sort bool) {
		l := drawn(b)
		if sort {
			slices.SortFunc(l, func(x, y api.Entry) int { return strings.Compare(x.Key, y.Key)*1000 + y.Seq - x.Seq })
		}
		why := modelCheck(l)
		if e := Check(l); e != why {
			t.Fatalf("P9.1: Check(%v): error %d; want %d", l, e, why)
		}
		x, e := Encode(l)
		if e != why || e != api.OK && len(x) != 0 || e == api.OK && !bytes.Equal(x, laid(l)) {
			t.Fatalf("P9.1: Encode(%v): %x, error %d; want error %d", l, x, e, why)
		}
		if e == api.OK {
			back, e := Decode(x)
			if e != api.OK || !slices.Equal(back, l) {
				t.Fatalf("P9.2: Decode of Encode of %v: %v, error %d", l, back, e)
			}
		}
	})
}
