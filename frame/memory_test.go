package frame

import (
	"bytes"
	"slices"
	"testing"
	"unsafe"

	"tickler/api"
)

// piece is a piece of memory: where it begins, and where it ends.
type piece struct{ from, to uintptr }

// pieceOf: the memory of a list, the room behind it too. A list without room still has a place if it points at something.
func pieceOf[T any](l []T) piece {
	var one T
	at := uintptr(unsafe.Pointer(unsafe.SliceData(l)))
	return piece{at, at + uintptr(cap(l))*unsafe.Sizeof(one)}
}

// meet tells whether two pieces share an octet, or one that is empty stands within the other.
func meet(a, b piece) bool {
	if a.from == a.to && a.from != 0 {
		return b.from <= a.from && a.from < b.to
	}
	return a.from < b.to && b.from < a.to
}

// apart fails if a piece of the answers meets an old one, or another of them.
func apart(t *testing.T, what string, answers []piece, old ...piece) {
	t.Helper()
	for i, a := range answers {
		if slices.ContainsFunc(append(slices.Clone(old), answers[:i]...), func(b piece) bool { return meet(a, b) }) {
			t.Errorf("P5.4: %s: the list %d of the answers shares memory", what, i)
		}
	}
}

// roomy: b with something in the room behind it.
func roomy(b []byte) []byte {
	return append(slices.Clone(b), "room behind it"...)[:len(b)]
}

// spoiled turns all octets of b, those in the room behind it too.
func spoiled(b []byte) {
	all := b[:cap(b)]
	for i := range all {
		all[i] ^= 0xff
	}
}

// P5.4: P2 of DOC.md

func TestWhatIsHandedInStays(t *testing.T) {
	row, _ := rowOf(few())
	given := [][]byte{nil, {}, row, row[:len(row)-1], row[:40], make([]byte, api.MaxData+1)}
	for _, r := range samples() {
		given = append(given, r.Data, laid(r))
	}
	for _, b := range noRecords() {
		given = append(given, b)
	}
	for _, b := range given {
		b = roomy(b)
		was := slices.Clone(b[:cap(b)])
		for _, kind := range []int{0, 77, 255, 256, -1} {
			Put(Record{Kind: kind, Data: b})
		}
		Get(b)
		Scan(b)
		if !bytes.Equal(b[:cap(b)], was) {
			t.Errorf("P5.4: %x (%d octets) became %x", begins(was), len(was), begins(b))
		}
	}
}

func TestPutAnswersNewMemory(t *testing.T) {
	for _, r := range samples() {
		want := laid(r)
		given := Record{r.Kind, roomy(r.Data)}
		b, _ := Put(given)
		again, _ := Put(given)
		apart(t, "Put", []piece{pieceOf(b), pieceOf(again)}, pieceOf(given.Data))
		spoiled(b)
		third, _ := Put(given)
		if !bytes.Equal(again, want) || !bytes.Equal(third, want) || !same(given, r) {
			t.Errorf("P5.4: Put's answer, spoiled, changed another or what was handed in (kind %d, %d octets)", r.Kind, len(r.Data))
		}
		spoiled(given.Data)
		if !bytes.Equal(again, want) {
			t.Errorf("P5.4: what was handed in to Put, spoiled, changed its answer (kind %d, %d octets)", r.Kind, len(r.Data))
		}
	}
}

func TestGetAnswersNewMemory(t *testing.T) {
	for _, r := range samples() {
		want := laid(r)
		b := roomy(want)
		one, _, _ := Get(b)
		two, _, _ := Get(b)
		apart(t, "Get", []piece{pieceOf(one.Data), pieceOf(two.Data)}, pieceOf(b))
		spoiled(one.Data)
		if !same(two, r) || !bytes.Equal(b, want) {
			t.Errorf("P5.4: Get's answer, spoiled, changed another or what was handed in (kind %d, %d octets)", r.Kind, len(r.Data))
		}
		spoiled(b)
		if !same(two, r) {
			t.Errorf("P5.4: what was handed in to Get, spoiled, changed its answer (kind %d, %d octets)", r.Kind, len(r.Data))
		}
	}
}

// listed: the pieces of memory of what Scan tells.
func listed(l []Record) []piece {
	p := []piece{pieceOf(l)}
	for _, r := range l {
		p = append(p, pieceOf(r.Data))
	}
	return p
}

func TestScanAnswersNewMemory(t *testing.T) {
	for _, want := range [][]Record{nil, few(), samples()} {
		row, _ := rowOf(want)
		b := roomy(row)
		one, _ := Scan(b)
		two, _ := Scan(b)
		apart(t, "Scan", append(listed(one), listed(two)...), pieceOf(b))
		for i := range one {
			// Each is spoiled alone, to see that none of the others goes with it.
			spoiled(one[i].Data)
			if !slices.EqualFunc(one[i+1:], want[i+1:], same) {
				t.Errorf("P5.4: record %d of Scan, spoiled, changed one behind it", i)
			}
			one[i].Data = slices.Clone(want[i].Data)
			if !slices.EqualFunc(one, want, same) {
				t.Errorf("P5.4: record %d of Scan, spoiled, changed one ahead of it", i)
			}
		}
		clear(one[:cap(one)])
		if !slices.EqualFunc(two, want, same) || !bytes.Equal(b, row) {
			t.Errorf("P5.4: Scan's answer, spoiled, changed another or what was handed in (%d records)", len(want))
		}
		spoiled(b)
		if !slices.EqualFunc(two, want, same) {
			t.Errorf("P5.4: what was handed in to Scan, spoiled, changed its answer (%d records)", len(want))
		}
	}
}

// taken: what Get should answer of b, reckoned with the library alone.
func taken(b []byte) (Record, int, api.Errno) {
	if len(b) == 0 {
		return Record{}, 0, api.ErrShort
	}
	ones := 0
	for ones < 8 && b[0]&(0x80>>ones) != 0 {
		ones++
	}
	if len(b) <= ones {
		return Record{}, 0, api.ErrShort
	}
	length := uint64(b[0]) & (0x7f >> ones)
	for _, x := range b[1 : ones+1] {
		length = length<<8 | uint64(x)
	}
	if ones > 0 && length < 1<<(7*ones) {
		return Record{}, 0, api.ErrRange
	}
	if length > 65536 {
		return Record{}, 0, api.ErrLong
	}
	end := ones + 2 + int(length)
	if len(b) < end+4 {
		return Record{}, 0, api.ErrShort
	}
	if !bytes.Equal(summed(b[:end]), b[:end+4]) {
		return Record{}, 0, api.ErrCorrupt
	}
	return Record{int(b[ones+1]), b[ones+2 : end]}, end + 4, api.OK
}

// P1 of DOC.md: whatever the octets, the calls answer as the chapter says.

func FuzzAnyOctets(f *testing.F) {
	row, _ := rowOf(few())
	f.Add(1, row)
	f.Add(-1, row[:30])
	f.Add(256, []byte{})
	for i, b := range noRecords() {
		f.Add(len(i), b)
	}
	f.Fuzz(func(t *testing.T, kind int, b []byte) {
		b = b[:min(len(b), api.MaxData)]
		put, e := Put(Record{kind, b})
		switch {
		case kind < 0 || kind > 255:
			if len(put) != 0 || e != api.ErrKind {
				t.Fatalf("P5.1: Put of kind %d: %x, error %d", kind, begins(put), e)
			}
		case e != api.OK || !bytes.Equal(put, laid(Record{kind, b})):
			t.Fatalf("P5.1: Put of kind %d, %x: %x, error %d", kind, begins(b), begins(put), e)
		}
		r, n, e := Get(b)
		want, size, wrong := taken(b)
		if !same(r, want) || n != size || e != wrong {
			t.Fatalf("P5.1: Get(%x): %v, %d, error %d; want %v, %d, error %d", b, r, n, e, want, size, wrong)
		}
		var all []Record
		end := 0
		for wrong == api.OK {
			all, end = append(all, want), end+size
			want, size, wrong = taken(b[end:])
		}
		scanned(t, "P5.1", "any octets", b, all, end)
		ahead := laid(Record{1, b})
		scanned(t, "P5.1", "any octets behind a record", append(ahead, b...), append([]Record{{1, b}}, all...), len(ahead)+end)
	})
}
