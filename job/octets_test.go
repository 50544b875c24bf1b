package job

import (
	"math"
	"math/rand"
	"strings"
	"testing"

	"tickler/api"
)

// spoils fails unless Decode of s answers the error and no job.
func spoils(t *testing.T, what, s string, want api.Errno) {
	t.Helper()
	j, e := Decode(s)
	if j != (Job{}) || e != want {
		t.Errorf("P19.1: %s: Decode(%x): %+v, error %d; want none, error %d", what, s, j, e, want)
	}
}

// pieces: a job with other octets in place of one piece: those ahead of the piece, and those behind.
func pieces(j Job, i int) (ahead, behind string) {
	l := partsOf(j)
	return laid(l[:i]), laid(l[i+1:])
}

// P19.1: Encode

func TestEncodeExamples(t *testing.T) {
	for _, c := range []struct {
		j    Job
		want string
	}{
		{Job{ID: 1, Status: 1}, "\x01\x01\x00\x00\x00\x00\x00\x00\x00\x00"},
		{Job{ID: 1, Payload: "p", Status: 2, Worker: 5, Token: 7, Until: 20}, "\x01\x02\x00\x00\x05\x07\x14\x00\x00\x01p"},
		{Job{ID: 300, Name: "ab", Status: 3, Due: 128, Tries: 6}, "\x81\x2c\x03\x80\x80\x06\x00\x00\x00\x02ab\x00\x00"},
		{Job{ID: 2, Name: "n", Rule: minutely, Payload: "pay", Status: 1, Due: 60}, "\x02\x01\x3c\x00\x00\x00\x00\x01n\x09* * * * *\x03pay"},
		{Job{ID: 1 << 40, Status: 1, Due: 32503680000}, "\xf9\x00\x00\x00\x00\x00\x01\xf7\x91\x5e\xcc\x00\x00\x00\x00\x00\x00\x00\x00"},
	} {
		if s, e := Encode(c.j); s != c.want || e != api.OK {
			t.Errorf("P19.1: Encode(%+v): %x, error %d; want %x", c.j, s, e, c.want)
		}
	}
}

func TestEncodeIsSpelledByTheChapter(t *testing.T) {
	for _, j := range someJobs() {
		if s, e := Encode(j); s != written(j) || e != api.OK {
			t.Errorf("P19.1: Encode(%+v): %x, error %d; want %x", j, s, e, written(j))
		}
	}
}

func TestEncodeOfWhatMayNotBe(t *testing.T) {
	for _, j := range wrongJobs() {
		if s, e := Encode(j); s != "" || e != api.ErrState {
			t.Errorf("P19.1: Encode(%+v): %x, error %d; want none, error %d", j, s, e, api.ErrState)
		}
	}
}

// P19.1: Decode

func TestDecodeTellsTheJob(t *testing.T) {
	for _, j := range someJobs() {
		got, e := Decode(written(j))
		follows(t, "P19.1: Decode", got, e, j)
	}
}

func TestDecodeOfEachBeginning(t *testing.T) {
	for _, j := range someJobs()[:40] {
		s := written(j)
		for n := range len(s) {
			spoils(t, "a beginning", s[:n], api.ErrShort)
		}
	}
}

func TestDecodeOfOctetsBehind(t *testing.T) {
	for _, j := range someJobs()[:40] {
		for _, more := range []string{"\x00", "\x01", "\xff", "\x80", "more", written(j), strings.Repeat("\x00", 5000)} {
			spoils(t, "octets behind", written(j)+more, api.ErrTail)
		}
	}
	spoils(t, "octets behind what may not be", written(Job{})+"\x00", api.ErrTail)
}

func TestDecodeOfANumberThatGetRefuses(t *testing.T) {
	for _, j := range []Job{waiting(), held(), lost()} {
		for i, x := range partsOf(j) {
			ahead, behind := pieces(j, i)
			for k := 2; k <= 9; k++ {
				for _, n := range []uint64{0, x.n, 1<<(7*(k-1)) - 1} {
					if fewest(n) < k {
						spoils(t, "a number in too many octets", ahead+octets(n, k)+x.s+behind, api.ErrRange)
						spoils(t, "a number in too many octets, the last", ahead+octets(n, k), api.ErrRange)
					}
				}
				cut := octets(1<<(7*(k-1)), k)
				for n := range len(cut) {
					spoils(t, "a number that ends ahead", ahead+cut[:n], api.ErrShort)
				}
			}
		}
	}
}

func TestDecodeOfNumbersAtTheHighest(t *testing.T) {
	for _, j := range []Job{waiting(), held(), lost()} {
		for i := range 7 {
			ahead, behind := pieces(j, i)
			for _, n := range []uint64{1<<40 + 1, 1<<40 + 2, 1 << 41, 1<<42 - 1, 1 << 42, 1 << 49, 1 << 56, 1 << 62, math.MaxInt64, 1 << 63, 1<<63 + 7, math.MaxUint64 - 7, math.MaxUint64} {
				spoils(t, "a number above 2^40", ahead+counted(n)+behind, api.ErrRange)
				spoils(t, "a number above 2^40, the last", ahead+counted(n), api.ErrRange)
				spoils(t, "a number above 2^40, octets behind", ahead+counted(n)+behind+"\x00", api.ErrRange)
			}
			want := api.ErrState
			if i == 0 || i == 5 && j.Status == 2 {
				want = api.OK
			}
			if _, e := Decode(ahead + counted(1<<40) + behind); e != want {
				t.Errorf("P19.1: Decode of 2^40 as number %d of %+v: error %d, want %d", i, j, e, want)
			}
			spoils(t, "2^40, the last", ahead+counted(1<<40), api.ErrShort)
		}
	}
}

func TestDecodeOfLengths(t *testing.T) {
	for _, j := range []Job{waiting(), held(), lost()} {
		for i := 7; i < 10; i++ {
			ahead, behind := pieces(j, i)
			for _, n := range []uint64{201, 255, 256} {
				text := strings.Repeat("y", int(n))
				spoils(t, "a text of up to 256", ahead+counted(n)+text+behind, api.ErrState)
				spoils(t, "a text of up to 256, octets behind", ahead+counted(n)+text+behind+"\x00", api.ErrTail)
				spoils(t, "a text of up to 256 that ends ahead", ahead+counted(n)+text[1:], api.ErrShort)
				spoils(t, "a length of up to 256, the last", ahead+counted(n), api.ErrShort)
			}
			for _, n := range []uint64{257, 258, 400, 512, 1 << 14, 1 << 21} {
				spoils(t, "a length above 256", ahead+counted(n)+strings.Repeat("y", int(n))+behind, api.ErrLong)
				spoils(t, "a length above 256, the last", ahead+counted(n), api.ErrLong)
			}
			for _, n := range []uint64{1 << 32, 1<<32 + 1, 1<<40 - 1, 1 << 40} {
				spoils(t, "a length far above 256", ahead+counted(n)+behind, api.ErrLong)
			}
			for _, n := range []uint64{1<<40 + 1, 1 << 62, math.MaxInt64, 1 << 63, 1<<63 + 1, math.MaxUint64} {
				spoils(t, "a length above 2^40", ahead+counted(n)+behind, api.ErrRange)
			}
		}
	}
}

// TestDecodeTellsTheFirstOfTwoFaults: the octets' order counts, not the errors'.
func TestDecodeTellsTheFirstOfTwoFaults(t *testing.T) {
	high, wide, far := counted(1<<40+1), octets(5, 2), counted(257)
	for _, j := range []Job{waiting(), held(), lost()} {
		l := partsOf(j)
		for i := range l {
			for k := i + 1; k < len(l); k++ {
				ahead, between, behind := laid(l[:i]), laid(l[i+1:k]), laid(l[k+1:])
				spoils(t, "too high, then too wide", ahead+high+between+wide+behind, api.ErrRange)
				spoils(t, "too wide, then too high", ahead+wide+between+high+behind, api.ErrRange)
				spoils(t, "too wide, then the end", ahead+wide+between, api.ErrRange)
				if k > 6 {
					spoils(t, "too wide, then too long", ahead+wide+between+far+behind, api.ErrRange)
				}
				if i > 6 {
					spoils(t, "too long, then too high", ahead+far+between+high+behind, api.ErrLong)
					spoils(t, "too long, then too wide", ahead+far+between+wide+behind, api.ErrLong)
					spoils(t, "too long, then the end", ahead+far+between, api.ErrLong)
				}
			}
		}
	}
	bad := held()
	bad.ID, bad.Name = 0, strings.Repeat("n", 33)
	s := written(bad)
	spoils(t, "two that may not be", s, api.ErrState)
	spoils(t, "what may not be, and the end", s[:len(s)-1], api.ErrShort)
}

func TestDecodeOfWhatMayNotBe(t *testing.T) {
	for _, j := range wrongJobs() {
		_, want := modelDecode(written(j))
		spoils(t, "what may not be", written(j), want)
	}
}

func TestDecodeOfOctetsByChance(t *testing.T) {
	dice := rand.New(rand.NewSource(191))
	jobs := someJobs()
	seen := map[api.Errno]int{}
	for range 60000 {
		b := []byte(written(pick(dice, jobs)))
		for range 1 + dice.Intn(3) {
			at := dice.Intn(len(b))
			switch dice.Intn(4) {
			case 0:
				b[at] = byte(dice.Intn(256))
			case 1:
				b[at] ^= 1 << dice.Intn(8)
			case 2:
				b = append(b[:at:at], append([]byte(counted(dice.Uint64()>>dice.Intn(64))), b[at:]...)...)
			case 3:
				b = append(b[:at:at], b[min(at+1+dice.Intn(3), len(b)):]...)
			}
			if len(b) == 0 {
				break
			}
		}
		want, e := modelDecode(string(b))
		seen[e]++
		if got, f := Decode(string(b)); got != want || f != e {
			t.Fatalf("P19.1: Decode(%x): %+v, error %d; want %+v, error %d", b, got, f, want, e)
		}
	}
	for _, e := range []api.Errno{api.OK, api.ErrShort, api.ErrRange, api.ErrLong, api.ErrTail, api.ErrState} {
		if seen[e] < 100 {
			t.Errorf("P19.1: error %d was seen only %d times", e, seen[e])
		}
	}
}

// P19.3

func TestDecodeOfEncodeIsTheJob(t *testing.T) {
	for _, j := range someJobs() {
		s, e := Encode(j)
		if e != api.OK {
			t.Errorf("P19.3: Encode(%+v): error %d", j, e)
		}
		got, e := Decode(s)
		follows(t, "P19.3: Decode of Encode", got, e, j)
	}
}

func TestWhatDecodeTakesIsEncodeOfIt(t *testing.T) {
	for _, j := range someJobs() {
		s := written(j)
		got, _ := Decode(s)
		if back, e := Encode(got); back != s || e != api.OK {
			t.Errorf("P19.3: Encode of Decode(%x): %x, error %d", s, back, e)
		}
	}
}
