package table

import (
	"bytes"
	"fmt"
	"hash/fnv"
	"slices"
	"strconv"
	"strings"
	"testing"

	"tickler/api"
	"tickler/block"
	"tickler/bloom"
	"tickler/frame"
	"tickler/sum"
)

// put: a version with a value.
func put(key string, seq int) api.Entry {
	return api.Entry{Key: key, Seq: seq, Kind: 1, Value: key + strconv.Itoa(seq)}
}

// holds: a version with that value.
func holds(key string, seq int, value string) api.Entry {
	return api.Entry{Key: key, Seq: seq, Kind: 1, Value: value}
}

// gone: a version of a key that is gone.
func gone(key string, seq int) api.Entry {
	return api.Entry{Key: key, Seq: seq, Kind: 2}
}

// many: n versions in order, of keys with much in common, some gone, some of one key, also where a block ends.
func many(n int) []api.Entry {
	var l []api.Entry
	for i := range n {
		x := put(fmt.Sprintf("key/%04d", i/3), 9000-i)
		if i%5 == 3 {
			x = gone(x.Key, x.Seq)
		}
		l = append(l, x)
	}
	return l
}

// apiece: n versions, each of a key of its own.
func apiece(n int) []api.Entry {
	var l []api.Entry
	for i := range n {
		l = append(l, put(fmt.Sprintf("%06d", i*7), i+1))
	}
	return l
}

// oneKey: n versions of one key.
func oneKey(n int) []api.Entry {
	var l []api.Entry
	for i := range n {
		l = append(l, put("one key", 3*(n-i)))
	}
	return l
}

// widest: n versions whose keys have nothing in common, or one octet, each as long as one may be.
func widest(n int) []api.Entry {
	var l []api.Entry
	for i := range n {
		key := string([]byte{byte(i >> 4), byte(i << 4)}) + strings.Repeat("\xff", 94)
		l = append(l, holds(key, 1<<40, strings.Repeat("\xfe", 512)))
	}
	return l
}

// edges: lengths and numbers at which more octets are needed, or which are the last that may be.
func edges() []api.Entry {
	var l []api.Entry
	for i, seq := range []int{1, 2, 127, 128, 16383, 16384, 1<<21 - 1, 1 << 28, 1<<40 - 1, 1 << 40} {
		l = append(l, gone("s"+string(rune('a'+i)), seq))
	}
	for i, n := range []int{0, 1, 127, 128, 255, 256, 511, 512} {
		l = append(l, holds("v"+string(rune('a'+i)), 1, strings.Repeat("\x00", n)))
	}
	for _, n := range []int{1, 2, 95, 96} {
		l = append(l, holds(strings.Repeat("w", n), 5, "x"))
	}
	return l
}

// lists: versions that may stand in a table.
func lists() map[string][]api.Entry {
	l := map[string][]api.Entry{
		"one gone":          {gone("a", 1)},
		"one without value": {holds("a", 1, "")},
		"edges":             edges(),
		"octets":            {put("\x00", 1), put("\x00\x00", 1), put("\x00\xff", 2), put("\x00\xff", 1), put("\x7f", 1), put("\x80", 1), put("\xc3\xa4", 1), put("\xff", 9), put("\xff\xff", 1)},
		"tktb":              {holds("tktb", 2, "tktb"), holds("tktbtktb", 1, strings.Repeat("tktb", 9))},
	}
	for _, n := range []int{1, 2, 3, 15, 16, 17, 31, 32, 33, 47, 48, 49, 64, 65, 200} {
		for what, list := range map[string]func(int) []api.Entry{"many": many, "apiece": apiece, "one key": oneKey, "widest": widest} {
			l[fmt.Sprint(what, " ", n)] = list(n)
		}
	}
	return l
}

// great: versions that may stand in a table, up to as many as there may be.
func great() map[string][]api.Entry {
	return map[string][]api.Entry{
		"many 4095":    many(4095),
		"many 4096":    many(4096),
		"apiece 4081":  apiece(4081),
		"apiece 4096":  apiece(4096),
		"one key 4096": oneKey(4096),
		"widest 4096":  widest(4096),
	}
}

// few: lists of few versions, for tests that go through all places.
func few() map[string][]api.Entry {
	return map[string][]api.Entry{
		"one":       {put("a", 1)},
		"many 16":   many(16),
		"many 17":   many(17),
		"apiece 33": apiece(33),
		"one key":   oneKey(18),
	}
}

// stands: may a node have x? Reckoned without skip.
func stands(x api.Entry) bool {
	room := map[int]int{1: 512, 2: 0}
	longest, kind := room[x.Kind]
	return kind && len(x.Value) <= longest && x.Key != "" && len(x.Key) < 97 && x.Seq > 0 && x.Seq-1 < 1<<40
}

// behind: does x come behind y, in the order of chapter 7?
func behind(y, x api.Entry) bool {
	keys := strings.Compare(y.Key, x.Key)
	return keys < 0 || keys == 0 && y.Seq > x.Seq
}

// modelCheck: the error that Build should answer.
func modelCheck(l []api.Entry) api.Errno {
	if len(l) == 0 || len(l) >= 4097 {
		return api.ErrCount
	}
	for i, x := range l {
		if !stands(x) {
			return api.ErrArg
		}
		if i > 0 && !behind(l[i-1], x) {
			return api.ErrOrder
		}
	}
	return api.OK
}

// wide: n in k octets, as few as will do or more; spelled in ones and noughts.
func wide(n uint64, k int) []byte {
	text := strings.Repeat("1", k-1) + "0" + fmt.Sprintf("%0*b", 7*k, n)
	if k == 9 {
		text = strings.Repeat("1", 8) + fmt.Sprintf("%064b", n)
	}
	var b []byte
	for ; text != ""; text = text[8:] {
		x, _ := strconv.ParseUint(text[:8], 2, 8)
		b = append(b, byte(x))
	}
	return b
}

// number: n in as few octets as will do.
func number(n uint64) []byte {
	k := 1
	for k < 9 && n>>(7*k) != 0 {
		k++
	}
	return wide(n, k)
}

// row is what the index says of a block.
type row struct {
	size, length []byte
	key          string
}

// rowOf: of a block of that size whose first key is that one.
func rowOf(size int, key string) row {
	return row{number(uint64(size)), number(uint64(len(key))), key}
}

// dataOf: the octets of rows.
func dataOf(rows []row) []byte {
	var b []byte
	for _, r := range rows {
		b = slices.Concat(b, r.size, r.length, []byte(r.key))
	}
	return b
}

// record: a record of that kind, without frame.Put.
func record(kind byte, data []byte) []byte {
	return sum.Guard(slices.Concat(number(uint64(len(data))), []byte{kind}, data))
}

// layout is what a table is laid from: its parts, and what its foot tells of them.
type layout struct {
	blocks                   [][]byte
	index, filter            []byte
	mark                     string
	indexAt, filterAt, count uint32
}

// octets: the parts of p one behind the other, as its foot tells it or not.
func (p layout) octets() []byte {
	b := slices.Concat(p.blocks...)
	return slices.Concat(b, p.index, p.filter, p.foot())
}

// foot: that of p.
func (p layout) foot() []byte {
	b := []byte(p.mark)
	for _, n := range []uint32{p.indexAt, p.filterAt, p.count} {
		b = append(b, byte(n/(1<<24)), byte(n/(1<<16)%256), byte(n/256%256), byte(n%256))
	}
	return sum.Guard(b)
}

// settle lets the foot tell where the parts begin.
func (p *layout) settle() {
	p.indexAt = uint32(len(slices.Concat(p.blocks...)))
	p.filterAt = p.indexAt + uint32(len(p.index))
}

// blockOf: the block of l, which has to have one.
func blockOf(l []api.Entry) []byte {
	b, e := block.Encode(l)
	if e != api.OK {
		panic(fmt.Sprint("the test itself: no block of ", len(l), " versions: error ", e))
	}
	return b
}

// uniques: the keys of l, each once, sorted.
func uniques(l []api.Entry) []string {
	var keys []string
	for _, x := range l {
		keys = append(keys, x.Key)
	}
	slices.Sort(keys)
	return slices.Compact(keys)
}

// bitsOf: the octets of the filter of those keys, without bloom: seven places each in ten bits a key.
func bitsOf(keys []string) []byte {
	bits := make([]byte, max(1, (10*len(keys)+7)/8))
	for _, key := range keys {
		h := fnv.New64a()
		h.Write([]byte(key))
		n := h.Sum64()
		for i := range uint64(7) {
			place := (n%(1<<32) + i*(n>>32|1)) % uint64(8*len(bits))
			bits[place/8] |= 1 << (place % 8)
		}
	}
	return append([]byte{7}, bits...)
}

// pieces: l in pieces of those sizes, the last one of what is left.
func pieces(l []api.Entry, sizes ...int) [][]api.Entry {
	var all [][]api.Entry
	for _, n := range sizes {
		n = min(n, len(l))
		all = append(all, l[:n])
		l = l[n:]
	}
	if len(l) > 0 {
		all = append(all, l)
	}
	return all
}

// sixteens: l in pieces of 16.
func sixteens(l []api.Entry) [][]api.Entry {
	return pieces(l, slices.Repeat([]int{16}, (len(l)-1)/16)...)
}

// rowsOf: what the index says of the blocks of those pieces.
func rowsOf(all [][]api.Entry) []row {
	var rows []row
	for _, l := range all {
		rows = append(rows, rowOf(len(blockOf(l)), l[0].Key))
	}
	return rows
}

// layoutOf: a table with blocks of those pieces, and all else as it should be.
func layoutOf(all [][]api.Entry) layout {
	whole := slices.Concat(all...)
	p := layout{mark: "tktb", count: uint32(len(whole))}
	for _, l := range all {
		p.blocks = append(p.blocks, blockOf(l))
	}
	p.index = record(2, dataOf(rowsOf(all)))
	p.filter = record(3, bitsOf(uniques(whole)))
	p.settle()
	return p
}

// laid: the table of l, without Build.
func laid(l []api.Entry) []byte {
	return layoutOf(sixteens(l)).octets()
}

// modelNumber: the number at the beginning of b, what is behind it, and whether it is one, written in as few octets as will do.
func modelNumber(b []byte) (uint64, []byte, bool) {
	if len(b) == 0 {
		return 0, nil, false
	}
	ones := 0
	for ones < 8 && b[0]&(0x80>>ones) != 0 {
		ones++
	}
	if ones >= len(b) {
		return 0, nil, false
	}
	n := uint64(b[0]) & (0x7f >> ones)
	for _, x := range b[1 : ones+1] {
		n = n<<8 | uint64(x)
	}
	return n, b[ones+1:], ones == 0 || n >= 1<<(7*ones)
}

// modelRecord: the data of b, if it is just one record of that kind.
func modelRecord(b []byte, kind int) ([]byte, bool) {
	r, n, e := frame.Get(b)
	return r.Data, e == api.OK && n == len(b) && r.Kind == kind
}

// modelBlocks: the n versions of b, if it is just their blocks and index tells them.
func modelBlocks(b, index []byte, n int) ([]api.Entry, bool) {
	var l []api.Entry
	for len(l) < n {
		size, rest, ok := modelNumber(index)
		if !ok || size > uint64(len(b)) {
			return nil, false
		}
		length, rest, ok := modelNumber(rest)
		if !ok || length > uint64(len(rest)) {
			return nil, false
		}
		part, e := block.Decode(b[:size])
		if e != api.OK || len(part) != min(16, n-len(l)) || part[0].Key != string(rest[:length]) {
			return nil, false
		}
		l, b, index = append(l, part...), b[size:], rest[length:]
	}
	return l, len(b) == 0 && len(index) == 0
}

// modelOpen: the versions and the error that Open should answer; rule by rule, without laying the table again.
func modelOpen(b []byte) ([]api.Entry, api.Errno) {
	if len(b) < 20 {
		return nil, api.ErrShort
	}
	end := len(b) - 20
	foot := b[end:]
	if !bytes.Equal(sum.Guard(foot[:16]), foot) {
		return nil, api.ErrCorrupt
	}
	if string(foot[:4]) != "tktb" {
		return nil, api.ErrKind
	}
	var n [3]int
	for i := range n {
		for _, x := range foot[4+4*i : 8+4*i] {
			n[i] = n[i]*256 + int(x)
		}
	}
	if n[0] > n[1] || n[1] > end || n[2] < 1 || n[2] > 4096 {
		return nil, api.ErrCorrupt
	}
	index, ok := modelRecord(b[n[0]:n[1]], 2)
	filter, fine := modelRecord(b[n[1]:end], 3)
	if !ok || !fine {
		return nil, api.ErrCorrupt
	}
	l, ok := modelBlocks(b[:n[0]], index, n[2])
	if !ok || modelCheck(l) != api.OK || !bytes.Equal(filter, bitsOf(uniques(l))) {
		return nil, api.ErrCorrupt
	}
	return l, api.OK
}

// modelGet: the version that Get should tell: of all that fit, the one with the greatest number.
func modelGet(l []api.Entry, key string, seq int) (x api.Entry, ok bool) {
	for _, y := range l {
		if y.Key == key && y.Seq <= seq && (!ok || y.Seq > x.Seq) {
			x, ok = y, true
		}
	}
	return x, ok
}

// modelOrder: ErrOrder, if l is out of order.
func modelOrder(l []api.Entry) api.Errno {
	for i := range l {
		for _, y := range l[:i] {
			if !behind(y, l[i]) {
				return api.ErrOrder
			}
		}
	}
	return api.OK
}

// modelBetween: the versions that Between should tell of l, which is in order.
func modelBetween(l []api.Entry, from, to string) []api.Entry {
	var m []api.Entry
	for _, x := range l {
		if strings.Compare(x.Key, from) >= 0 && (to == "" || strings.Compare(x.Key, to) < 0) {
			m = append(m, x)
		}
	}
	return m
}

// agreed fails unless Open and Get of b answer what the models do.
func agreed(t *testing.T, what string, b []byte, key string, seq int) {
	t.Helper()
	want, wrong := modelOpen(b)
	x, e := Open(b)
	if e != wrong || !slices.Equal(x.Entries, want) {
		t.Fatalf("P10.1: Open, %s: %d versions, error %d; want %d, error %d", what, len(x.Entries), e, len(want), wrong)
	}
	if e != api.OK && (x.Filter.K != 0 || len(x.Filter.Bits) != 0) {
		t.Fatalf("P10.1: Open, %s: a filter beside error %d", what, e)
	}
	if e == api.OK {
		if again, e := Build(x.Entries); e != api.OK || !bytes.Equal(again, b) {
			t.Fatalf("P10.3: Open, %s, took octets that Build, error %d, does not make of it", what, e)
		}
	}
	y, there := modelGet(want, key, seq)
	if x, ok, e := Get(b, key, seq); x != y || ok != there || e != wrong {
		t.Fatalf("P10.1: Get(%q, %d), %s: %v, %t, error %d; want %v, %t, error %d", key, seq, what, x, ok, e, y, there, wrong)
	}
}

// told fails unless Range and Between of the versions answer what the models do, whatever the filter.
func told(t *testing.T, what string, x Table, from, to string) {
	t.Helper()
	wrong := modelOrder(x.Entries)
	var between []api.Entry
	low, high, none := "", "", wrong
	if wrong == api.OK {
		between = modelBetween(x.Entries, from, to)
		none = api.ErrCount
	}
	if wrong == api.OK && len(x.Entries) > 0 {
		low, high, none = uniques(x.Entries)[0], slices.Max(uniques(x.Entries)), api.OK
	}
	if a, z, e := Range(x); a != low || z != high || e != none {
		t.Fatalf("P10.2: Range of %s: %q, %q, error %d; want %q, %q, error %d", what, a, z, e, low, high, none)
	}
	if m, e := Between(x, from, to); !slices.Equal(m, between) || e != wrong {
		t.Fatalf("P10.2: Between(%q, %q) of %s: %v, error %d; want %v, error %d", from, to, what, m, e, between, wrong)
	}
}

// P1 of DOC.md: whatever is given, the calls answer as the chapter says.

func FuzzAnyOctets(f *testing.F) {
	for _, l := range few() {
		f.Add(laid(l), l[0].Key, l[0].Seq)
	}
	f.Add([]byte{}, "", 0)
	f.Add([]byte("tktb\x00\x00\x00\x00\x00\x00\x00\x00\x00\x00\x00\x01"), "a", 1)
	f.Add([]byte("tktb\xff\xff\xff\xff\xff\xff\xff\xff\xff\xff\xff\xff"), "a", 1)
	f.Add(bytes.Repeat([]byte{0xff}, 600), "a", -1)
	f.Fuzz(func(t *testing.T, b []byte, key string, seq int) {
		agreed(t, "any octets", b, key, seq)
		agreed(t, "any octets, guarded", sum.Guard(b), key, seq)
		if len(b) >= 16 {
			ahead := slices.Clone(b[:len(b)-16])
			agreed(t, "any octets with a foot", append(ahead, sum.Guard(b[len(b)-16:])...), key, seq)
		}
		end := min(len(b), 1<<16)
		p := layout{blocks: [][]byte{b}, index: record(2, b[:end]), filter: record(3, b[:end]), mark: "tktb", count: uint32(seq)}
		p.settle()
		agreed(t, "any octets as each part", p.octets(), key, seq)
	})
}

// drawn: versions that the octets tell, many of which may not stand, or not there.
func drawn(b []byte) []api.Entry {
	var l []api.Entry
	for ; len(b) >= 4 && len(l) < 70; b = b[4:] {
		x := api.Entry{Key: strings.Repeat(string(b[:1]), int(b[1]%5)) + string(b[2:3]), Seq: int(b[3] & 63), Kind: int(b[3]>>6) % 3}
		if x.Kind == 1 {
			x.Value = strings.Repeat("v", int(b[1]>>4))
		}
		if b[1] == 255 {
			x.Key = strings.Repeat(string(b[:1]), int(b[2]))
		}
		l = append(l, x)
	}
	return l
}

func FuzzAnyVersions(f *testing.F) {
	f.Add([]byte("a\x01b\x41a\x01c\x42b\x02b\x83"), false, "", "")
	f.Add([]byte("a\x01b\x41a\x01b\x42b\x02b\x83"), true, "b", "ba")
	f.Add(bytes.Repeat([]byte("a\x10b\x41b\x01c\x42"), 40), true, "a", "")
	f.Add([]byte("aaaaabacadaeafagahaiajakalamanaoapaqarasatauavawaxayaz"), true, "b", "a")
	f.Add([]byte("a\xffa\x41a\xff\x60\x42"), false, "\x00", "\xff")
	f.Fuzz(func(t *testing.T, b []byte, sort bool, from, to string) {
		l := drawn(b)
		if sort {
			slices.SortFunc(l, func(x, y api.Entry) int { return strings.Compare(x.Key, y.Key)*1000 + y.Seq - x.Seq })
			l = slices.CompactFunc(l, func(x, y api.Entry) bool { return x.Key == y.Key && x.Seq == y.Seq })
		}
		told(t, "any versions", Table{Entries: l, Filter: bloom.Filter{Bits: b}}, from, to)
		built(t, "any versions", l, modelCheck(l))
	})
}
