package wal

import (
	"bytes"
	"encoding/binary"
	"hash/crc32"
	"math/bits"
	"slices"
	"strconv"
	"testing"

	"tickler/api"
)

// checksum: the sum of b by the library, whose register stands the other way round.
func checksum(b []byte) uint32 {
	turned := slices.Clone(b)
	for i, x := range turned {
		turned[i] = bits.Reverse8(x)
	}
	return bits.Reverse32(^crc32.ChecksumIEEE(turned))
}

// record: a record's octets, laid by the library alone.
func record(kind byte, data []byte) []byte {
	b := slices.Concat(counted(uint64(len(data))), []byte{kind}, data)
	return binary.BigEndian.AppendUint32(b, checksum(b))
}

// logOf: the batches' records one behind the other, and where each of them ends.
func logOf(l []Batch) (log []byte, ends []int) {
	for _, b := range l {
		log = append(log, record(1, laid(b))...)
		ends = append(ends, len(log))
	}
	return log, ends
}

// row: batches that follow one another, the first with that Seq, of so many changes each.
func row(seq int, counts ...int) []Batch {
	var l []Batch
	for _, n := range counts {
		l = append(l, Batch{seq, many(n)})
		seq += n
	}
	return l
}

// few: batches short enough for each cut.
func few() []Batch {
	return []Batch{
		{7, []api.Change{put("a", "x")}},
		{8, []api.Change{gone("a"), put("b", filled(200))}},
		{10, []api.Change{put("c", "")}},
		{11, []api.Change{put("a", "y"), put("a", "z"), gone("a")}},
		{14, []api.Change{gone(filled(96))}},
	}
}

// replayed fails unless Replay of log tells just these batches, and that they are n octets.
func replayed(t *testing.T, promise, what string, log []byte, want []Batch, n int) {
	t.Helper()
	l, got := Replay(log)
	if !slices.EqualFunc(l, want, same) || got != n {
		t.Errorf("%s: Replay of %s (%x, %d octets): %d batches, %d octets; want %d, %d", promise, what, begins(log), len(log), len(l), got, len(want), n)
	}
}

// P6.2: Add

func TestAddLaysARecordBehind(t *testing.T) {
	for _, b := range samples() {
		want := record(1, laid(b))
		// What lies in the log is not asked, be it records or not.
		for _, log := range [][]byte{nil, {}, {0}, []byte("no record"), want, record(2, nil)} {
			got, e := Add(log, b)
			if e != api.OK || !bytes.Equal(got, slices.Concat(log, want)) {
				t.Errorf("P6.2: Add of Seq %d, %d changes behind %x: %x (%d octets), error %d", b.Seq, len(b.Changes), begins(log), begins(got), len(got), e)
			}
		}
	}
}

func TestAddOfASeqThatDoesNotFollow(t *testing.T) {
	first := Batch{5, many(2)}
	log, _ := Add(nil, first)
	for _, seq := range []int{1, 5, 6, 8, top} {
		b := Batch{seq, many(1)}
		if got, e := Add(log, b); e != api.OK || !bytes.Equal(got, slices.Concat(log, record(1, laid(b)))) {
			t.Errorf("P6.2: Add of Seq %d behind one that uses 5 and 6: %d octets, error %d", seq, len(got), e)
		}
	}
}

func TestAddOfWhatMayNotBe(t *testing.T) {
	whole, _ := logOf(few())
	for _, r := range refusals() {
		for _, log := range [][]byte{nil, whole} {
			if got, e := Add(log, r.b); len(got) != 0 || e != r.want {
				t.Errorf("P6.2: Add of %s: %x, error %d; want none, error %d", r.what, begins(got), e, r.want)
			}
		}
	}
}

// P6.2: Replay

func TestReplayOfNone(t *testing.T) {
	replayed(t, "P6.2", "nil", nil, nil, 0)
	replayed(t, "P6.2", "nothing", []byte{}, nil, 0)
}

func TestReplayBeginsAtAnySeq(t *testing.T) {
	for _, b := range samples() {
		log, _ := logOf([]Batch{b})
		replayed(t, "P6.2", "one batch", log, []Batch{b}, len(log))
	}
}

// stops: octets that end a replay behind few, and ahead of anything.
func stops() map[string][]byte {
	next := laid(Batch{15, many(2)})
	torn := record(1, next)
	torn[5] ^= 1
	l := map[string][]byte{
		"noughts":              make([]byte, 20),
		"ones":                 bytes.Repeat([]byte{0xff}, 40),
		"a text":               []byte("octets that are no record"),
		"an octet turned":      torn,
		"a bare batch":         next,
		"a record of nothing":  record(1, nil),
		"a record of no batch": record(1, []byte("no batch")),
		"a batch cut off":      record(1, next[:len(next)-1]),
		"a batch and a tail":   record(1, append(slices.Clone(next), 0)),
		"a batch of Seq 0":     record(1, laid(Batch{0, many(1)})),
		"a batch of none":      record(1, []byte{15, 0}),
		"a batch of 65":        record(1, laid(Batch{15, slices.Repeat([]api.Change{gone("a")}, 65)})),
		"a batch without keys": record(1, laid(Batch{15, []api.Change{gone("")}})),
		"a value of 513":       record(1, laid(Batch{15, []api.Change{put("a", filled(513))}})),
		"a kind that is none":  record(1, []byte{15, 1, 3, 1, 'a'}),
		"a batch too high":     record(1, laid(Batch{top + 1, many(1)})),
		"a batch above 2^40":   record(1, laid(Batch{1<<40 + 1, many(1)})),
	}
	for _, kind := range []byte{0, 2, 3, 128, 129, 254, 255} {
		l["a record of kind "+strconv.Itoa(int(kind))] = record(kind, next)
	}
	return l
}

func TestReplayStopsAtTheFirstThatIsNone(t *testing.T) {
	whole, ends := logOf(few())
	follows := record(1, laid(Batch{15, many(2)}))
	for what, b := range stops() {
		replayed(t, "P6.2", what, b, nil, 0)
		replayed(t, "P6.2", what+" ahead of batches", slices.Concat(b, whole), nil, 0)
		replayed(t, "P6.2", what+" behind batches", slices.Concat(whole, b), few(), len(whole))
		// What would follow behind it is not told.
		replayed(t, "P6.2", what+" ahead of the next", slices.Concat(whole, b, follows), few(), len(whole))
		for i, end := range ends {
			replayed(t, "P6.2", what+" among batches", slices.Concat(whole[:end], b, whole[end:]), few()[:i+1], end)
		}
	}
	replayed(t, "P6.2", "what follows", slices.Concat(whole, follows), append(few(), Batch{15, many(2)}), len(whole)+len(follows))
}

func TestReplayStopsWhereSeqDoesNotFollow(t *testing.T) {
	for _, n := range []int{1, 2, 3, 63, 64} {
		for _, seq := range []int{1, 100, top - 200} {
			first := Batch{seq, many(n)}
			for step := -3; step <= 70; step++ {
				next := Batch{seq + step, many(2)}
				if next.Seq < 1 {
					continue
				}
				log, ends := logOf([]Batch{first, next})
				if step == n {
					replayed(t, "P6.2", "one that follows", log, []Batch{first, next}, len(log))
				} else {
					replayed(t, "P6.2", "one that does not follow", log, []Batch{first}, ends[0])
				}
			}
		}
	}
}

func TestReplayAsksForTheOneAheadAlone(t *testing.T) {
	l := row(1, 3, 2, 64, 1, 1, 5)
	for i := 1; i < len(l); i++ {
		// Each by one too low, too high, and as the first of all, the others as they were.
		for _, seq := range []int{l[i].Seq - 1, l[i].Seq + 1, 1, l[i-1].Seq} {
			wrong := slices.Clone(l)
			wrong[i].Seq = seq
			log, ends := logOf(wrong)
			replayed(t, "P6.2", "a Seq that does not follow", log, l[:i], ends[i-1])
		}
	}
}

func TestReplayUpToTheHighest(t *testing.T) {
	l := []Batch{{top - 64, many(64)}, {top, many(64)}}
	log, _ := logOf(l)
	replayed(t, "P6.2", "the highest", log, l, len(log))
	beyond := record(1, laid(Batch{1 << 40, many(1)}))
	replayed(t, "P6.2", "one beyond the highest", append(slices.Clone(log), beyond...), l, len(log))
}

// P6.4

func TestWhatWasAddedIsReplayed(t *testing.T) {
	for _, l := range [][]Batch{few(), row(1, 1), row(1, 64, 64, 64), row(500, 1, 2, 3, 4, 5, 64, 6, 7), row(1, slices.Repeat([]int{1}, 500)...), {{1, full(64)}, {65, full(64)}}} {
		var log []byte
		for i, b := range l {
			var e api.Errno
			log, e = Add(log, b)
			if e != api.OK {
				t.Fatalf("P6.4: Add of Seq %d, %d changes: error %d", b.Seq, len(b.Changes), e)
			}
			if i < 20 || i == len(l)-1 {
				replayed(t, "P6.4", "what was added", log, l[:i+1], len(log))
			}
		}
	}
}

func TestReplayOfALogCutOff(t *testing.T) {
	for _, l := range [][]Batch{few(), row(1, 5, 1, 9, 2)} {
		log, ends := logOf(l)
		for cut := range len(log) + 1 {
			whole, end := 0, 0
			for whole < len(ends) && ends[whole] <= cut {
				end = ends[whole]
				whole++
			}
			replayed(t, "P6.4", "a log cut off", slices.Clone(log[:cut]), l[:whole], end)
			replayed(t, "P6.4", "a log cut off, with the rest in the room behind", log[:cut], l[:whole], end)
		}
	}
}

func TestAddGoesOnBehindACut(t *testing.T) {
	log, ends := logOf(few())
	next := Batch{10, many(2)}
	_, n := Replay(log[:ends[1]+3])
	again, e := Add(log[:n], next)
	if e != api.OK {
		t.Fatalf("P6.4: Add behind a cut: error %d", e)
	}
	replayed(t, "P6.4", "what was added behind a cut", again, append(few()[:2], next), len(again))
	// Behind what is torn it is not to be seen.
	torn, _ := Add(log[:ends[1]+3], next)
	replayed(t, "P6.4", "what was added behind a torn record", torn, few()[:2], ends[1])
}

// P6.2: Entries

func TestEntriesNumbersAndKinds(t *testing.T) {
	got, e := Entries(Batch{5, []api.Change{put("a", "x"), gone("b"), put("a", ""), gone("a")}})
	want := []api.Entry{{Key: "a", Seq: 5, Kind: 1, Value: "x"}, {Key: "b", Seq: 6, Kind: 2}, {Key: "a", Seq: 7, Kind: 1}, {Key: "a", Seq: 8, Kind: 2}}
	if e != api.OK || !slices.Equal(got, want) {
		t.Errorf("P6.2: Entries: %v, error %d; want %v", got, e, want)
	}
}

func TestEntriesOfEachBatch(t *testing.T) {
	for _, b := range samples() {
		l, e := Entries(b)
		if e != api.OK || !slices.Equal(l, versions(b)) {
			t.Errorf("P6.2: Entries of Seq %d, %d changes: %d entries, error %d", b.Seq, len(b.Changes), len(l), e)
		}
	}
}

// versions: the entries that a batch makes.
func versions(b Batch) []api.Entry {
	l := make([]api.Entry, len(b.Changes))
	for i, c := range b.Changes {
		l[i] = api.Entry{Key: c.Key, Seq: b.Seq + i, Kind: 1, Value: c.Value}
		if c.Del {
			l[i].Kind = 2
		}
	}
	return l
}

func TestEntriesOfWhatMayNotBe(t *testing.T) {
	for _, r := range refusals() {
		if l, e := Entries(r.b); len(l) != 0 || e != r.want {
			t.Errorf("P6.2: Entries of %s: %d, error %d; want none, error %d", r.what, len(l), e, r.want)
		}
	}
}
