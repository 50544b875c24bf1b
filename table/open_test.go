package table

import (
	"bytes"
	"fmt"
	"maps"
	"math"
	"slices"
	"strings"
	"testing"

	"tickler/api"
	"tickler/block"
	"tickler/bloom"
	"tickler/sum"
)

// refused fails unless Open and Get of b answer that error and nothing beside it.
func refused(t *testing.T, what string, b []byte, want api.Errno) {
	t.Helper()
	if x, e := Open(b); len(x.Entries) != 0 || x.Filter.K != 0 || len(x.Filter.Bits) != 0 || e != want {
		t.Errorf("P10.1: Open, %s: %d versions, a filter of %d, error %d; want none, error %d", what, len(x.Entries), x.Filter.K, e, want)
	}
	if x, ok, e := Get(b, "key/0000", math.MaxInt); x != (api.Entry{}) || ok || e != want {
		t.Errorf("P10.1: Get, %s: %v, %t, error %d; want none, error %d", what, x, ok, e, want)
	}
}

// changed fails unless a table of l that is changed so is refused as none.
func changed(t *testing.T, what string, l []api.Entry, change func(*layout)) {
	t.Helper()
	p := layoutOf(sixteens(l))
	change(&p)
	if bytes.Equal(p.octets(), laid(l)) {
		t.Fatalf("the test itself: %s, of %d: nothing is changed", what, len(l))
	}
	refused(t, fmt.Sprint(what, ", of ", len(l)), p.octets(), api.ErrCorrupt)
}

// moved fails as changed does, where the foot tells of the change.
func moved(t *testing.T, what string, l []api.Entry, change func(*layout)) {
	t.Helper()
	changed(t, what, l, func(p *layout) {
		change(p)
		p.settle()
	})
}

// footed: b with the foot's octets changed, and guarded anew.
func footed(b []byte, change func(foot []byte)) []byte {
	end := len(b) - 20
	foot := slices.Clone(b[end : end+16])
	change(foot)
	return append(slices.Clone(b[:end]), sum.Guard(foot)...)
}

// P10.3

func TestOpenOfEachList(t *testing.T) {
	all := lists()
	maps.Copy(all, great())
	for what, l := range all {
		b := laid(l)
		x, e := Open(b)
		if e != api.OK || !slices.Equal(x.Entries, l) {
			t.Fatalf("P10.1: Open of %s: %d versions, error %d; want the %d", what, len(x.Entries), e, len(l))
		}
		if again, e := Build(x.Entries); e != api.OK || !bytes.Equal(again, b) {
			t.Errorf("P10.3: Build of Open of %s, error %d, is not what was opened", what, e)
		}
	}
}

// P10.1: Open of octets whose foot is none

func TestOpenOfFewOctets(t *testing.T) {
	refused(t, "nil", nil, api.ErrShort)
	for n := range 20 {
		refused(t, fmt.Sprint(n, " octets 00"), make([]byte, n), api.ErrShort)
		refused(t, fmt.Sprint(n, " octets ff"), bytes.Repeat([]byte{0xff}, n), api.ErrShort)
	}
	for n := range 16 {
		// A sum that fits and the mark do not help where there are too few.
		refused(t, fmt.Sprint(n, " octets, guarded"), sum.Guard([]byte("tktb\x00\x00\x00\x00\x00\x00\x00\x00\x00\x00\x00\x01")[:n]), api.ErrShort)
		refused(t, fmt.Sprint(n, " other octets, guarded"), sum.Guard([]byte("another beginning")[:n]), api.ErrShort)
	}
	for n := 20; n < 50; n++ {
		refused(t, fmt.Sprint(n, " octets 00"), make([]byte, n), api.ErrCorrupt)
		refused(t, fmt.Sprint(n, " octets ff"), bytes.Repeat([]byte{0xff}, n), api.ErrCorrupt)
		refused(t, fmt.Sprint(n, " octets, the mark ahead"), append([]byte("tktb"), make([]byte, n-4)...), api.ErrCorrupt)
	}
	refused(t, "a foot alone", sum.Guard([]byte("tktb\x00\x00\x00\x00\x00\x00\x00\x00\x00\x00\x00\x01")), api.ErrCorrupt)
	refused(t, "a foot alone, of nothing", sum.Guard([]byte("tktb\x00\x00\x00\x00\x00\x00\x00\x00\x00\x00\x00\x00")), api.ErrCorrupt)
	refused(t, "sixteen octets 00, guarded", sum.Guard(make([]byte, 16)), api.ErrKind)
}

func TestOpenOfCutOff(t *testing.T) {
	for what, l := range lists() {
		b := laid(l)
		for n := range b {
			if n > 40 && n < len(b)-40 && len(b) > 1000 && n%997 != 0 {
				continue
			}
			want := api.ErrCorrupt
			if n < 20 {
				want = api.ErrShort
			}
			refused(t, fmt.Sprint(what, ", cut off at ", n), b[:n], want)
			if n == 0 {
				continue
			}
			want = api.ErrCorrupt
			if len(b)-n < 20 {
				want = api.ErrShort
			}
			refused(t, fmt.Sprint(what, ", without the first ", n), b[n:], want)
		}
	}
}

func TestOpenOfATurnedOctet(t *testing.T) {
	for what, l := range few() {
		b := laid(l)
		for i := range b {
			for _, x := range []byte{1, 2, 4, 8, 16, 32, 64, 128, 0x55, 0xff} {
				turned := slices.Clone(b)
				turned[i] ^= x
				refused(t, fmt.Sprint(what, ", octet ", i, " turned by ", x), turned, api.ErrCorrupt)
			}
		}
	}
	for what, l := range great() {
		b := laid(l)
		for _, i := range []int{0, len(b) / 2, len(b) - 21} {
			turned := slices.Clone(b)
			turned[i] ^= 4
			refused(t, fmt.Sprint(what, ", octet ", i, " turned"), turned, api.ErrCorrupt)
		}
	}
}

func TestOpenOfSomeTooManyOrTooFew(t *testing.T) {
	for what, l := range few() {
		b := laid(l)
		for i := range len(b) + 1 {
			for _, more := range []string{"\x00", "\x01", "t", "\xff", "\x00\x00\x00\x00", string(b[:15])} {
				refused(t, fmt.Sprintf("%s, %x put in at %d", what, more, i), slices.Insert(slices.Clone(b), i, []byte(more)...), api.ErrCorrupt)
			}
			for _, n := range []int{1, 4, 15} {
				if i+n <= len(b) {
					refused(t, fmt.Sprint(what, ", ", n, " taken out at ", i), slices.Delete(slices.Clone(b), i, i+n), api.ErrCorrupt)
				}
			}
		}
		refused(t, what+", twice", slices.Repeat(b, 2), api.ErrCorrupt)
		refused(t, what+", its foot twice", append(slices.Clone(b), b[len(b)-20:]...), api.ErrCorrupt)
		refused(t, what+", behind another table", append(laid(apiece(40)), b...), api.ErrCorrupt)
		refused(t, what+", ahead of another table", append(slices.Clone(b), laid(apiece(40))...), api.ErrCorrupt)
		refused(t, what+", guarded", sum.Guard(b), api.ErrCorrupt)
		for n := 1; n < 30; n++ {
			refused(t, fmt.Sprint(what, ", ", n, " octets 00 behind"), append(slices.Clone(b), make([]byte, n)...), api.ErrCorrupt)
		}
	}
}

func TestOpenOfAnotherMark(t *testing.T) {
	for what, l := range few() {
		b := laid(l)
		for i := range 4 {
			for x := 1; x < 256; x++ {
				refused(t, fmt.Sprint(what, ", the mark's octet ", i, " turned by ", x), footed(b, func(foot []byte) { foot[i] ^= byte(x) }), api.ErrKind)
			}
		}
		for _, mark := range []string{"TKTB", "Tktb", "tktc", "tkbt", "btkt", "ttkb", "bttk", "\x00\x00\x00\x00", "\xff\xff\xff\xff"} {
			refused(t, what+", marked "+mark, footed(b, func(foot []byte) { copy(foot, mark) }), api.ErrKind)
		}
	}
}

func TestWhichErrorOfOpenComesFirst(t *testing.T) {
	for what, l := range few() {
		b := laid(l)
		end := len(b) - 20
		spoiled := slices.Clone(b)
		for i := range end {
			spoiled[i] ^= 0xa5
		}
		other := func(foot []byte) { copy(foot, "tkta") }
		refused(t, what+", all spoiled but the foot", spoiled, api.ErrCorrupt)
		refused(t, what+", all spoiled, another mark", footed(spoiled, other), api.ErrKind)
		refused(t, what+", another mark and no places", footed(b, func(foot []byte) { copy(foot, bytes.Repeat([]byte{0xff}, 16)) }), api.ErrKind)
		refused(t, what+", another mark alone", footed(b, other)[end:], api.ErrKind)
		refused(t, what+", another mark, cut off ahead", footed(b, other)[end+1:], api.ErrShort)
		unguarded := footed(b, other)
		unguarded[len(b)-1] ^= 1
		refused(t, what+", another mark and no sum", unguarded, api.ErrCorrupt)
		refused(t, what+", another mark and no sum, one octet too few", unguarded[end+1:], api.ErrShort)
	}
}

// P10.1: Open of foots that are guarded anew behind a change

func TestOpenOfOtherNumbersInTheFoot(t *testing.T) {
	for what, l := range few() {
		p := layoutOf(sixteens(l))
		size := uint32(len(p.octets()))
		for _, c := range []struct {
			field string
			now   uint32
			set   func(*layout, uint32)
		}{
			{"the index begins at", p.indexAt, func(p *layout, n uint32) { p.indexAt = n }},
			{"the filter begins at", p.filterAt, func(p *layout, n uint32) { p.filterAt = n }},
			{"the count is", p.count, func(p *layout, n uint32) { p.count = n }},
		} {
			others := []uint32{0, 1, c.now - 1, c.now + 1, c.now + 16, c.now * 2, c.now ^ 0x100, c.now ^ 0x10000, c.now ^ 0x1000000, c.now ^ 0x80000000, p.indexAt, p.filterAt, p.count, uint32(len(l[0].Key)),
				size - 21, size - 20, size - 19, size - 4, size - 1, size, size + 1, 4096, 4097, 1<<16 - 1, 1 << 16, 1<<31 - 1, 1 << 31, 1<<32 - 2, 1<<32 - 1, c.now<<24 | c.now>>8<<16, c.now << 24}
			for _, n := range others {
				if n != c.now {
					changed(t, fmt.Sprint(what, ": ", c.field, " ", n), l, func(p *layout) { c.set(p, n) })
				}
			}
			for n := range size + 2 {
				if n != c.now {
					changed(t, fmt.Sprint(what, ": ", c.field, " ", n), l, func(p *layout) { c.set(p, n) })
				}
			}
		}
		changed(t, what+": index and filter turned", l, func(p *layout) { p.indexAt, p.filterAt = p.filterAt, p.indexAt })
		changed(t, what+": both at the index", l, func(p *layout) { p.filterAt = p.indexAt })
		changed(t, what+": both at the filter", l, func(p *layout) { p.indexAt = p.filterAt })
		changed(t, what+": all beyond", l, func(p *layout) { p.indexAt, p.filterAt, p.count = math.MaxUint32, math.MaxUint32, math.MaxUint32 })
	}
}

// P10.1: Open of parts that are well made by themselves, but are not those that Build makes

func TestOpenOfOtherBlocks(t *testing.T) {
	for n, all := range map[int][][]int{
		2:  {{1}},
		16: {{1}, {8}, {15}},
		17: {{17}, {15}, {1}, {8, 8}},
		32: {{15, 16}, {17}, {32}, {1, 16}, {8, 8, 8}, {16, 15}},
		33: {{15, 16}, {17}, {17, 16}, {1, 16}, {32}, {33}, {16, 17}, {16, 1}, {16, 8}},
		64: {{64}, {16, 16, 32}, {48}, {4, 4, 4, 4}},
		65: {{64}, {16, 16, 16, 17}, {1, 16, 16, 16}, {1, 64}, {32, 32}},
	} {
		for _, sizes := range all {
			for what, l := range map[string][]api.Entry{"many": many(n), "apiece": apiece(n), "one key": oneKey(n)} {
				b := layoutOf(pieces(l, sizes...)).octets()
				if bytes.Equal(b, laid(l)) {
					t.Fatalf("the test itself: %v are the blocks of %d", sizes, n)
				}
				refused(t, fmt.Sprint(what, ", ", n, " in blocks of ", sizes), b, api.ErrCorrupt)
			}
		}
	}
	refused(t, "4097 versions", layoutOf(sixteens(apiece(4097))).octets(), api.ErrCorrupt)
	refused(t, "4112 versions of one key", layoutOf(sixteens(oneKey(4112))).octets(), api.ErrCorrupt)
	wide := slices.Repeat([]int{64}, 300)
	refused(t, "19200 versions in blocks of 64", layoutOf(pieces(apiece(19200), wide...)).octets(), api.ErrCorrupt)
}

func TestOpenOfNoVersions(t *testing.T) {
	none := layoutOf(nil)
	refused(t, "no versions", none.octets(), api.ErrCorrupt)
	for _, filter := range [][]byte{nil, record(3, nil), record(3, []byte{7}), record(3, []byte{7, 0}), record(3, []byte{7, 0, 0}), record(2, []byte{7, 0})} {
		for _, index := range [][]byte{nil, record(2, nil), record(2, []byte{0}), record(2, []byte{0, 0}), record(3, nil)} {
			for _, count := range []uint32{0, 1, 16, math.MaxUint32} {
				p := none
				p.filter, p.index, p.count = filter, index, count
				p.settle()
				refused(t, fmt.Sprintf("no versions, index %x, filter %x, count %d", index, filter, count), p.octets(), api.ErrCorrupt)
			}
		}
	}
}

func TestOpenOfBlocksOutOfOrder(t *testing.T) {
	for what, list := range map[string]func(int) []api.Entry{"many": many, "apiece": apiece, "one key": oneKey} {
		all := sixteens(list(50))
		turned := func(i, j int) [][]api.Entry {
			c := slices.Clone(all)
			c[i], c[j] = c[j], c[i]
			return c
		}
		refused(t, what+": the first two blocks turned", layoutOf(turned(0, 1)).octets(), api.ErrCorrupt)
		refused(t, what+": two later blocks turned", layoutOf(turned(1, 2)).octets(), api.ErrCorrupt)
		refused(t, what+": the last block first", layoutOf(turned(0, 3)).octets(), api.ErrCorrupt)
		refused(t, what+": a block twice", layoutOf(slices.Insert(slices.Clone(all), 1, all[1])).octets(), api.ErrCorrupt)
		// Each block is in order by itself: it shows where one ends and the next begins.
		l := list(51)
		refused(t, what+": the last of a block twice", layoutOf([][]api.Entry{l[:16], l[15:31], l[31:47]}).octets(), api.ErrCorrupt)
		later := slices.Clone(l[:16])
		later[15] = l[17]
		refused(t, what+": the last of a block too late", layoutOf([][]api.Entry{later, l[16:32], l[32:]}).octets(), api.ErrCorrupt)
		same := slices.Clone(l[16:32])
		same[0] = holds(l[15].Key, l[15].Seq, "another value")
		if what != "one key" && block.Check(same) != api.OK {
			t.Fatalf("the test itself: %s", what)
		}
		refused(t, what+": one key and number in two blocks", layoutOf([][]api.Entry{l[:16], same, l[32:48]}).octets(), api.ErrCorrupt)
	}
}

func TestOpenOfAMissingOrForeignBlock(t *testing.T) {
	l := apiece(50)
	for i := range 4 {
		changed(t, fmt.Sprint("without block ", i), l, func(p *layout) { p.blocks = slices.Delete(p.blocks, i, i+1) })
		moved(t, fmt.Sprint("without block ", i, ", told by the foot"), l, func(p *layout) { p.blocks = slices.Delete(p.blocks, i, i+1) })
		all := sixteens(l)
		foreign := slices.Clone(all[i])
		foreign[len(foreign)-1].Value = strings.Repeat("x", len(foreign[len(foreign)-1].Value))
		// Another value of the same length is another table; that one is well made.
		p := layoutOf(sixteens(l))
		p.blocks[i] = blockOf(foreign)
		agreed(t, "another value", p.octets(), l[0].Key, l[0].Seq)
		if _, e := Open(p.octets()); e != api.OK {
			t.Errorf("P10.1: Open of a table with another value: error %d", e)
		}
		for x := range 256 {
			foreign = slices.Clone(all[i])
			first := &foreign[0].Key
			*first = (*first)[:len(*first)-1] + string([]byte{byte(x)})
			if *first == all[i][0].Key || block.Check(foreign) != api.OK {
				continue
			}
			moved(t, fmt.Sprintf("the first key of block %d is %q", i, *first), l, func(p *layout) { p.blocks[i] = blockOf(foreign) })
			p := layoutOf(sixteens(l))
			rows := rowsOf(sixteens(l))
			rows[i].key = *first
			p.blocks[i], p.index = blockOf(foreign), record(2, dataOf(rows))
			p.settle()
			agreed(t, "a first key that the filter may lack", p.octets(), *first, math.MaxInt)
		}
		moved(t, fmt.Sprint("block ", i, " is no block"), l, func(p *layout) { p.blocks[i] = sum.Guard([]byte("no block")) })
		moved(t, fmt.Sprint("block ", i, " is nothing"), l, func(p *layout) { p.blocks[i] = nil })
	}
}

// rowed fails unless a table whose index has other rows is refused.
func rowed(t *testing.T, what string, l []api.Entry, change func([]row) []row) {
	t.Helper()
	moved(t, "the index: "+what, l, func(p *layout) { p.index = record(2, dataOf(change(rowsOf(sixteens(l))))) })
}

func TestOpenOfAnotherIndex(t *testing.T) {
	for _, l := range [][]api.Entry{many(16), many(17), apiece(50), oneKey(33)} {
		blocks := (len(l) + 15) / 16
		for i := range blocks {
			size := len(blockOf(sixteens(l)[i]))
			key := l[16*i].Key
			for _, other := range []string{"", key[:1], key[:len(key)-1], key + "\x00", key + key, l[min(16*i+3, len(l)-1)].Key + "x", "another", strings.Repeat("k", 96), strings.Repeat("k", 97), strings.Repeat("k", 1000)} {
				rowed(t, fmt.Sprintf("block %d begins with %.100q", i, other), l, func(r []row) []row {
					r[i] = rowOf(size, other)
					return r
				})
			}
			for _, other := range []uint64{0, 1, uint64(size) - 1, uint64(size) + 1, uint64(size) * 2, 1<<16 - 1, 1 << 31, 1 << 32, 1<<63 - 1, 1 << 63, math.MaxUint64} {
				rowed(t, fmt.Sprint("block ", i, " has ", other, " octets"), l, func(r []row) []row {
					r[i].size = number(other)
					return r
				})
				if other != uint64(len(key)) {
					rowed(t, fmt.Sprint("the key of block ", i, " has ", other, " octets"), l, func(r []row) []row {
						r[i].length = number(other)
						return r
					})
				}
			}
			for k := 2; k <= 9; k++ {
				rowed(t, fmt.Sprint("block ", i, ", its key's length in ", k), l, func(r []row) []row {
					r[i].length = wide(uint64(len(key)), k)
					return r
				})
				if k > len(number(uint64(size))) {
					rowed(t, fmt.Sprint("block ", i, ", its size in ", k), l, func(r []row) []row {
						r[i].size = wide(uint64(size), k)
						return r
					})
				}
			}
			rowed(t, fmt.Sprint("without block ", i), l, func(r []row) []row { return slices.Delete(r, i, i+1) })
			rowed(t, fmt.Sprint("block ", i, " twice"), l, func(r []row) []row { return slices.Insert(r, i, r[i]) })
			rowed(t, fmt.Sprint("a block of nothing ahead of block ", i), l, func(r []row) []row { return slices.Insert(r, i, rowOf(0, "")) })
		}
		rowed(t, "no rows", l, func([]row) []row { return nil })
		rowed(t, "a block of nothing behind", l, func(r []row) []row { return append(r, rowOf(0, "")) })
		rowed(t, "a block of nothing with a key behind", l, func(r []row) []row { return append(r, rowOf(0, "z")) })
		rowed(t, "an octet behind", l, func(r []row) []row { return append(r, row{size: []byte{0}}) })
		rowed(t, "a number cut off behind", l, func(r []row) []row { return append(r, row{size: []byte{0x80}}) })
		rowed(t, "a key cut off", l, func(r []row) []row {
			last := len(r) - 1
			r[last].key = r[last].key[1:]
			return r
		})
		rowed(t, "the other way round", l, func(r []row) []row {
			for i := range r {
				r[i].size, r[i].length = r[i].length, r[i].size
			}
			return r
		})
	}
	rowed(t, "two rows turned", apiece(50), func(r []row) []row {
		r[0], r[1] = r[1], r[0]
		return r
	})
	rowed(t, "two blocks as one", apiece(50), func(r []row) []row {
		r[0].size = number(uint64(len(blockOf(apiece(16))) + len(blockOf(apiece(32)[16:]))))
		return slices.Delete(r, 1, 2)
	})
}

// filtered fails unless a table with another filter is refused.
func filtered(t *testing.T, what string, l []api.Entry, data []byte) {
	t.Helper()
	moved(t, "the filter: "+what, l, func(p *layout) { p.filter = record(3, data) })
}

func TestOpenOfAnotherFilter(t *testing.T) {
	for _, l := range [][]api.Entry{many(16), many(17), apiece(50), oneKey(33)} {
		keys := uniques(l)
		right := bitsOf(keys)
		for each := 1; each <= 16; each++ {
			f, _ := bloom.Make(keys, each)
			b, _ := bloom.Encode(f)
			if each == 10 && !bytes.Equal(b, right) {
				t.Fatal("the test itself: its filter is not that of bloom")
			}
			// Of one key 11 bits are as many octets as 10.
			if each == 10 || each == 11 && len(keys) == 1 {
				continue
			}
			filtered(t, fmt.Sprint(each, " bits a key"), l, b)
		}
		for k := range byte(10) {
			if k != 7 {
				filtered(t, fmt.Sprint(k, " places a key"), l, append([]byte{k}, right[1:]...))
			}
		}
		for i := range right {
			for bit := range 8 {
				turned := slices.Clone(right)
				turned[i] ^= 1 << bit
				filtered(t, fmt.Sprint("bit ", bit, " of octet ", i, " turned"), l, turned)
			}
		}
		var each []string
		for _, x := range l {
			each = append(each, x.Key)
		}
		if len(each) > len(keys) {
			filtered(t, "the keys of all versions, not each once", l, bitsOf(each))
		}
		filtered(t, "one key less", l, bitsOf(keys[1:]))
		filtered(t, "one key more", l, bitsOf(append([]string{"another key"}, keys...)))
		filtered(t, "an octet more", l, append(slices.Clone(right), 0))
		filtered(t, "an octet less", l, right[:len(right)-1])
		filtered(t, "all bits set", l, append([]byte{7}, bytes.Repeat([]byte{0xff}, len(right)-1)...))
		filtered(t, "nothing", l, nil)
		filtered(t, "K alone", l, right[:1])
		filtered(t, "8192 octets", l, append([]byte{7}, make([]byte, 8192)...))
		filtered(t, "8193 octets", l, append([]byte{7}, make([]byte, 8193)...))
	}
}

func TestOpenOfRecordsOfOtherKinds(t *testing.T) {
	for _, l := range [][]api.Entry{{put("a", 1)}, many(17), apiece(33)} {
		rows := dataOf(rowsOf(sixteens(l)))
		bits := bitsOf(uniques(l))
		for kind := range 256 {
			if kind != 2 {
				changed(t, fmt.Sprint("an index of Kind ", kind), l, func(p *layout) { p.index = record(byte(kind), rows) })
			}
			if kind != 3 {
				changed(t, fmt.Sprint("a filter of Kind ", kind), l, func(p *layout) { p.filter = record(byte(kind), bits) })
			}
		}
		changed(t, "both kinds turned", l, func(p *layout) { p.index, p.filter = record(3, rows), record(2, bits) })
		moved(t, "index and filter turned", l, func(p *layout) { p.index, p.filter = p.filter, p.index })
		changed(t, "index and filter turned, as the foot tells", l, func(p *layout) {
			p.index, p.filter = p.filter, p.index
			p.filterAt = p.indexAt
			p.indexAt += uint32(len(p.index))
		})
		for k := 2; k <= 9; k++ {
			if k > len(number(uint64(len(rows)))) {
				moved(t, fmt.Sprint("the index's length in ", k), l, func(p *layout) {
					p.index = sum.Guard(slices.Concat(wide(uint64(len(rows)), k), []byte{2}, rows))
				})
			}
			if k > len(number(uint64(len(bits)))) {
				moved(t, fmt.Sprint("the filter's length in ", k), l, func(p *layout) {
					p.filter = sum.Guard(slices.Concat(wide(uint64(len(bits)), k), []byte{3}, bits))
				})
			}
		}
		moved(t, "the index without its sum", l, func(p *layout) { p.index = p.index[:len(p.index)-4] })
		moved(t, "the filter without its sum", l, func(p *layout) { p.filter = p.filter[:len(p.filter)-4] })
		moved(t, "no index", l, func(p *layout) { p.index = nil })
		moved(t, "no filter", l, func(p *layout) { p.filter = nil })
		moved(t, "neither", l, func(p *layout) { p.index, p.filter = nil, nil })
	}
}

func TestOpenOfSomethingBetweenTheParts(t *testing.T) {
	for _, l := range [][]api.Entry{{put("a", 1)}, many(17), apiece(33)} {
		for _, more := range [][]byte{{0}, {0, 0, 0, 0}, {0xff}, record(2, nil), record(3, nil), record(4, []byte("more")), blockOf(many(1)), []byte("tktb")} {
			what := fmt.Sprintf("%x ", more)
			for i := range (len(l)+15)/16 + 1 {
				moved(t, what+fmt.Sprint("ahead of block ", i), l, func(p *layout) { p.blocks = slices.Insert(p.blocks, i, more) })
			}
			moved(t, what+"behind the index", l, func(p *layout) { p.index = slices.Concat(p.index, more) })
			moved(t, what+"behind the filter", l, func(p *layout) { p.filter = slices.Concat(p.filter, more) })
			changed(t, what+"ahead of the index, which the foot passes over", l, func(p *layout) {
				p.index = slices.Concat(more, p.index)
				p.settle()
				p.indexAt += uint32(len(more))
			})
			changed(t, what+"ahead of the filter, which the foot passes over", l, func(p *layout) {
				p.filter = slices.Concat(more, p.filter)
				p.settle()
				p.filterAt += uint32(len(more))
			})
		}
		moved(t, "the index twice", l, func(p *layout) { p.index = slices.Repeat(p.index, 2) })
		moved(t, "the filter twice", l, func(p *layout) { p.filter = slices.Repeat(p.filter, 2) })
		// The index ahead of the blocks would do, if the foot alone said where it begins.
		changed(t, "the index first", l, func(p *layout) {
			p.blocks, p.index = [][]byte{p.index, slices.Concat(p.blocks...)}, nil
			p.indexAt = 0
		})
	}
}

func TestOpenOfAPartOfAnotherTable(t *testing.T) {
	for _, l := range [][]api.Entry{many(17), apiece(33)} {
		other := layoutOf(sixteens(apiece(40)))
		moved(t, "the blocks of another table", l, func(p *layout) { p.blocks = other.blocks })
		moved(t, "the index of another table", l, func(p *layout) { p.index = other.index })
		moved(t, "the filter of another table", l, func(p *layout) { p.filter = other.filter })
		changed(t, "the foot of another table", l, func(p *layout) { p.indexAt, p.filterAt, p.count = other.indexAt, other.filterAt, other.count })
	}
}

// P1 of DOC.md

func TestManyBlocksOfNothing(t *testing.T) {
	// An index as long as a record may be, of blocks that have no octets, or all the same.
	p := layout{mark: "tktb", count: 4096, filter: record(3, bitsOf(nil))}
	p.index = record(2, make([]byte, 1<<16))
	p.settle()
	refused(t, "2^15 blocks of nothing", p.octets(), api.ErrCorrupt)
	one := blockOf([]api.Entry{gone("a", 1)})
	p.blocks = slices.Repeat([][]byte{one}, 1<<14)
	p.index = record(2, bytes.Repeat([]byte{byte(len(one)), 1, 'a'}, 1<<14))
	p.settle()
	refused(t, "2^14 blocks of one version", p.octets(), api.ErrCorrupt)
	p.index = record(2, bytes.Repeat([]byte{0xff}, 1<<16))
	p.settle()
	refused(t, "an index of octets ff", p.octets(), api.ErrCorrupt)
}

func TestWhatOpenTakesIsBuildOfIt(t *testing.T) {
	for what, l := range map[string][]api.Entry{"one": {put("ab", 7)}, "two": {put("ab", 7), gone("b", 1)}} {
		taken := 0
		bare := blockOf(l)
		bare = bare[:len(bare)-4]
		for i := range bare {
			for x := range 256 {
				turned := slices.Clone(bare)
				turned[i] = byte(x)
				p := layoutOf(sixteens(l))
				p.blocks[0] = sum.Guard(turned)
				p.settle()
				agreed(t, fmt.Sprint(what, ", octet ", i, " is ", x), p.octets(), l[0].Key, math.MaxInt)
				if _, e := Open(p.octets()); e == api.OK {
					taken++
				}
			}
		}
		if taken <= len(bare) {
			t.Errorf("the test itself: %s: %d taken of %d octets turned", what, taken, len(bare))
		}
	}
}
