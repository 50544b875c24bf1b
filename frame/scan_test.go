package frame

import (
	"bytes"
	"math/rand"
	"slices"
	"testing"

	"tickler/api"
)

// rowOf: the records' octets one behind the other, and where each of them ends.
func rowOf(l []Record) (row []byte, ends []int) {
	for _, r := range l {
		row = append(row, laid(r)...)
		ends = append(ends, len(row))
	}
	return row, ends
}

// scanned fails unless Scan of b tells just these records, and that they are n octets.
func scanned(t *testing.T, promise, what string, b []byte, want []Record, n int) {
	t.Helper()
	l, got := Scan(b)
	if !slices.EqualFunc(l, want, same) || got != n {
		t.Errorf("%s: Scan of %s (%x, %d octets): %d records, %d octets; want %d, %d", promise, what, begins(b), len(b), len(l), got, len(want), n)
	}
}

// few: records short enough for each cut, with one longer than 127 octets among them.
func few() []Record {
	return []Record{{Kind: 1, Data: []byte("a")}, {}, {Kind: 255, Data: []byte("some more")}, {Kind: 0, Data: make([]byte, 130)}, {Kind: 9}, {Kind: 1, Data: []byte("a")}}
}

// noRecords: octets of which Get takes none.
func noRecords() map[string][]byte {
	wrong := laid(Record{Kind: 1, Data: []byte("a")})
	wrong[2] ^= 1
	return map[string][]byte{
		"noughts":                 make([]byte, 20),
		"ones":                    bytes.Repeat([]byte{0xff}, 40),
		"text":                    []byte("octets that are no record"),
		"a length alone":          {5},
		"a length cut off":        {0xc0, 1},
		"a longer length":         {0x80, 1, 1, 'a', 0, 0, 0, 0},
		"a length above the most": {0xc1, 0, 1, 1, 'a', 0, 0, 0, 0},
		"a sum that does not fit": wrong,
	}
}

// P5.1: Scan

func TestScanOfNone(t *testing.T) {
	scanned(t, "P5.1", "nil", nil, nil, 0)
	scanned(t, "P5.1", "nothing", []byte{}, nil, 0)
}

func TestScanOfNoRecord(t *testing.T) {
	for what, b := range noRecords() {
		scanned(t, "P5.1", what, b, nil, 0)
	}
}

func TestScanStopsAtTheFirstThatIsNone(t *testing.T) {
	row, ends := rowOf(few())
	for what, b := range noRecords() {
		for i, end := range ends {
			// Records behind what is none are not told, though Get would take them.
			torn := slices.Concat(row[:end], b, row)
			scanned(t, "P5.1", what+" among records", torn, few()[:i+1], end)
		}
		scanned(t, "P5.1", what+" ahead of records", slices.Concat(b, row), nil, 0)
	}
}

func TestScanStopsAtATurnedOctet(t *testing.T) {
	row, ends := rowOf(few())
	begin := 0
	for i, end := range ends {
		for at := begin + len(counted(len(few()[i].Data))); at < end; at++ {
			torn := slices.Clone(row)
			torn[at] ^= 0x20
			scanned(t, "P5.1", "records, an octet turned", torn, few()[:i], begin)
		}
		begin = end
	}
}

// P5.2

func TestScanTellsThemAll(t *testing.T) {
	lists := [][]Record{few(), samples(), make([]Record, 1000)}
	for _, r := range samples() {
		lists = append(lists, []Record{r}, []Record{r, r})
	}
	for _, l := range lists {
		var row []byte
		for _, r := range l {
			b, e := Put(r)
			if e != api.OK {
				t.Fatalf("P5.2: Put of kind %d, %d octets: error %d", r.Kind, len(r.Data), e)
			}
			row = append(row, b...)
		}
		scanned(t, "P5.2", "records put", row, l, len(row))
	}
}

func TestScanTellsThemAllWhateverTheyAre(t *testing.T) {
	dice := rand.New(rand.NewSource(5))
	for range 300 {
		var l []Record
		for range dice.Intn(12) {
			l = append(l, Record{Kind: dice.Intn(256), Data: filled(dice.Intn(300))})
		}
		row, _ := rowOf(l)
		scanned(t, "P5.2", "records put", row, l, len(row))
	}
}

// P5.3

func TestScanOfWhatIsCutOff(t *testing.T) {
	row, ends := rowOf(few())
	for cut := range len(row) + 1 {
		whole, end := 0, 0
		for whole < len(ends) && ends[whole] <= cut {
			end = ends[whole]
			whole++
		}
		scanned(t, "P5.3", "records, cut off", slices.Clone(row[:cut]), few()[:whole], end)
		scanned(t, "P5.3", "records, cut off, with the rest in the room behind", row[:cut], few()[:whole], end)
	}
}

func TestScanOfLongOnesCutOff(t *testing.T) {
	l := []Record{{Kind: 1, Data: filled(api.MaxData)}, {Kind: 2, Data: filled(16384)}, {Kind: 3, Data: filled(api.MaxData)}}
	row, ends := rowOf(l)
	for i, end := range ends {
		begin := 0
		if i > 0 {
			begin = ends[i-1]
		}
		scanned(t, "P5.3", "all of a long one but its last octet", row[:end-1], l[:i], begin)
		scanned(t, "P5.3", "a long one", row[:end], l[:i+1], end)
		scanned(t, "P5.3", "a long one's length", row[:begin+2], l[:i], begin)
	}
}

// TestRecordsMayBeLeft: who ranges over the records may leave at any of them, and may begin anew.
func TestRecordsMayBeLeft(t *testing.T) {
	row, ends := rowOf(few())
	all := records(row)
	for stop := range few() {
		i := 0
		for r, end := range all {
			if !same(r, few()[i]) || end != ends[i] {
				t.Errorf("P5.1: record %d of a range: %v, ends at %d; want %v, %d", i, r, end, few()[i], ends[i])
			}
			if i == stop {
				break
			}
			i++
		}
		if i != stop {
			t.Errorf("P5.1: a range that leaves at record %d told %d", stop, i)
		}
	}
}
