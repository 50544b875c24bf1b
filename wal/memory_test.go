package wal

import (
	"bytes"
	"slices"
	"testing"
	"unsafe"
)

// piece is a piece of memory: where it begins, and where it ends.
type piece struct{ from, to uintptr }

// pieceOf: the memory of a list, the room behind it too. A list without room still has a place if it points at something.
func pieceOf[T any](l []T) piece {
	var one T
	at := uintptr(unsafe.Pointer(unsafe.SliceData(l)))
	return piece{at, at + uintptr(cap(l))*unsafe.Sizeof(one)}
}

// meet tells whether two pieces share an octet, or one that is empty stands within the other.
func meet(a, b piece) bool {
	if a.from == a.to && a.from != 0 {
		return b.from <= a.from && a.from < b.to
	}
	return a.from < b.to && b.from < a.to
}

// apart fails if a piece of the answers meets an old one, or another of them.
func apart(t *testing.T, what string, answers []piece, old ...piece) {
	t.Helper()
	for i, a := range answers {
		if slices.ContainsFunc(append(slices.Clone(old), answers[:i]...), func(b piece) bool { return meet(a, b) }) {
			t.Errorf("P6.5: %s: the list %d of the answers shares memory", what, i)
		}
	}
}

// roomy: l with something in the room behind it.
func roomy[T any](l []T, behind ...T) []T {
	return append(slices.Clone(l), behind...)[:len(l)]
}

// spoiled turns all octets of b, those in the room behind it too.
func spoiled(b []byte) {
	all := b[:cap(b)]
	for i := range all {
		all[i] ^= 0xff
	}
}

// twin: the same batch in memory of its own, with something in the room behind it.
func twin(b Batch) Batch {
	return Batch{b.Seq, roomy(b.Changes, put("room", "behind"), gone("it"))}
}

// memoryOf: the lists of what Replay tells.
func memoryOf(l []Batch) []piece {
	p := []piece{pieceOf(l)}
	for _, b := range l {
		p = append(p, pieceOf(b.Changes))
	}
	return p
}

// P6.5: P2 of DOC.md

func TestBatchesHandedInStay(t *testing.T) {
	batches := samples()
	for _, r := range refusals() {
		batches = append(batches, r.b)
	}
	for _, b := range batches {
		given := twin(b)
		log := roomy([]byte("a log"), []byte("room behind it")...)
		was, logWas := slices.Clone(given.Changes[:cap(given.Changes)]), slices.Clone(log[:cap(log)])
		Check(given)
		Encode(given)
		Add(log, given)
		Entries(given)
		if !slices.Equal(given.Changes[:cap(given.Changes)], was) || !bytes.Equal(log[:cap(log)], logWas) {
			t.Errorf("P6.5: a batch of Seq %d, %d changes, or the log, was changed", b.Seq, len(b.Changes))
		}
	}
}

func TestOctetsHandedInStay(t *testing.T) {
	whole, ends := logOf(few())
	given := [][]byte{nil, {}, whole, whole[:ends[2]+5]}
	for _, b := range samples() {
		given = append(given, laid(b), record(1, laid(b)))
	}
	for _, b := range stops() {
		given = append(given, b, slices.Concat(whole, b))
	}
	for _, b := range given {
		b = roomy(b, []byte("room behind it")...)
		was := slices.Clone(b[:cap(b)])
		Decode(b)
		Replay(b)
		if !bytes.Equal(b[:cap(b)], was) {
			t.Errorf("P6.5: %x (%d octets) became %x", begins(was), len(was), begins(b))
		}
	}
}

func TestEncodeAnswersNewMemory(t *testing.T) {
	for _, b := range samples() {
		given := twin(b)
		one, _ := Encode(given)
		two, _ := Encode(given)
		apart(t, "Encode", []piece{pieceOf(one), pieceOf(two)}, pieceOf(given.Changes))
		spoiled(one)
		clear(given.Changes)
		if !bytes.Equal(two, laid(b)) {
			t.Errorf("P6.5: Encode of Seq %d, %d changes, is not its holder's", b.Seq, len(b.Changes))
		}
	}
}

func TestDecodeAnswersNewMemory(t *testing.T) {
	for _, b := range samples() {
		x := roomy(laid(b), []byte("room behind it")...)
		one, _ := Decode(x)
		two, _ := Decode(x)
		apart(t, "Decode", []piece{pieceOf(one.Changes), pieceOf(two.Changes)}, pieceOf(x))
		clear(one.Changes[:cap(one.Changes)])
		if !bytes.Equal(x, laid(b)) {
			t.Errorf("P6.5: what Decode answered, spoiled, changed what was handed in (Seq %d)", b.Seq)
		}
		spoiled(x)
		if !same(two, b) {
			t.Errorf("P6.5: Decode of Seq %d, %d changes, is not its holder's", b.Seq, len(b.Changes))
		}
	}
}

func TestAddAnswersNewMemory(t *testing.T) {
	for _, b := range samples() {
		for _, ahead := range [][]byte{nil, {}, []byte("a log"), record(1, laid(b))} {
			given, log := twin(b), roomy(ahead, slices.Repeat([]byte("room"), 20000)...)
			want := slices.Concat(ahead, record(1, laid(b)))
			one, _ := Add(log, given)
			two, _ := Add(log, given)
			apart(t, "Add", []piece{pieceOf(one), pieceOf(two)}, pieceOf(log), pieceOf(given.Changes))
			spoiled(one)
			if !bytes.Equal(log, ahead) || !same(given, b) {
				t.Errorf("P6.5: what Add answered, spoiled, changed what was handed in (Seq %d)", b.Seq)
			}
			spoiled(log)
			clear(given.Changes)
			if !bytes.Equal(two, want) {
				t.Errorf("P6.5: Add of Seq %d, %d changes, is not its holder's", b.Seq, len(b.Changes))
			}
		}
	}
}

func TestReplayAnswersNewMemory(t *testing.T) {
	for _, want := range [][]Batch{nil, few(), row(1, 64, 3, 64, 1)} {
		whole, _ := logOf(want)
		log := roomy(whole, []byte("room behind it")...)
		one, _ := Replay(log)
		two, _ := Replay(log)
		apart(t, "Replay", append(memoryOf(one), memoryOf(two)...), pieceOf(log))
		for i := range one {
			// Each is spoiled alone, to see that none of the others goes with it.
			clear(one[i].Changes[:cap(one[i].Changes)])
			one[i].Changes = slices.Clone(want[i].Changes)
			if !slices.EqualFunc(one, want, same) {
				t.Errorf("P6.5: batch %d of Replay, spoiled, changed another", i)
			}
		}
		clear(one[:cap(one)])
		if !slices.EqualFunc(two, want, same) || !bytes.Equal(log, whole) {
			t.Errorf("P6.5: what Replay answered, spoiled, changed another or what was handed in (%d batches)", len(want))
		}
		spoiled(log)
		if !slices.EqualFunc(two, want, same) {
			t.Errorf("P6.5: the log, spoiled, changed what Replay answered (%d batches)", len(want))
		}
	}
}

func TestEntriesAnswersNewMemory(t *testing.T) {
	for _, b := range samples() {
		given := twin(b)
		one, _ := Entries(given)
		two, _ := Entries(given)
		apart(t, "Entries", []piece{pieceOf(one), pieceOf(two)}, pieceOf(given.Changes))
		clear(one[:cap(one)])
		if !same(given, b) {
			t.Errorf("P6.5: what Entries answered, spoiled, changed what was handed in (Seq %d)", b.Seq)
		}
		clear(given.Changes)
		if !slices.Equal(two, versions(b)) {
			t.Errorf("P6.5: Entries of Seq %d, %d changes, is not its holder's", b.Seq, len(b.Changes))
		}
	}
}
