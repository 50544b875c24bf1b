package wal

import (
	"bytes"
	"slices"
	"testing"

	"tickler/api"
)

// modelNumber: the number at a place of x, and where it ends; the error if there is none that may be.
func modelNumber(x []byte, at int) (uint64, int, api.Errno) {
	if at >= len(x) {
		return 0, 0, api.ErrShort
	}
	ones := 0
	for ones < 8 && x[at]&(0x80>>ones) != 0 {
		ones++
	}
	if at+ones >= len(x) {
		return 0, 0, api.ErrShort
	}
	n := uint64(x[at]) & (0x7f >> ones)
	for _, o := range x[at+1 : at+ones+1] {
		n = n<<8 | uint64(o)
	}
	if ones > 0 && n < 1<<(7*ones) || n > 1<<40 {
		return 0, 0, api.ErrRange
	}
	return n, at + ones + 1, api.OK
}

// modelText: the text at a place of x, and where it ends.
func modelText(x []byte, at int) (string, int, api.Errno) {
	n, at, e := modelNumber(x, at)
	switch {
	case e != api.OK:
		return "", 0, e
	case n > 65536:
		return "", 0, api.ErrLong
	case uint64(len(x)-at) < n:
		return "", 0, api.ErrShort
	}
	return string(x[at : at+int(n)]), at + int(n), api.OK
}

// modelChange: the change at a place of x, and where it ends.
func modelChange(x []byte, at int) (c api.Change, end int, e api.Errno) {
	if at == len(x) {
		return c, 0, api.ErrShort
	}
	if x[at] == 0 || x[at] > 2 {
		return c, 0, api.ErrKind
	}
	key, end, e := modelText(x, at+1)
	if e != api.OK || x[at] == 2 {
		return gone(key), end, e
	}
	value, end, e := modelText(x, end)
	return put(key, value), end, e
}

// modelDecode: what Decode should answer of x, reckoned without it.
func modelDecode(x []byte) (Batch, api.Errno) {
	seq, at, e := modelNumber(x, 0)
	if e != api.OK {
		return Batch{}, e
	}
	count, at, e := modelNumber(x, at)
	if e != api.OK {
		return Batch{}, e
	}
	if count > 64 {
		return Batch{}, api.ErrCount
	}
	b := Batch{Seq: int(seq)}
	for len(b.Changes) < int(count) {
		var c api.Change
		if c, at, e = modelChange(x, at); e != api.OK {
			return Batch{}, e
		}
		b.Changes = append(b.Changes, c)
	}
	if at < len(x) {
		return Batch{}, api.ErrTail
	}
	if e := modelCheck(b); e != api.OK {
		return Batch{}, e
	}
	return b, api.OK
}

// modelCheck: what Check should answer of b.
func modelCheck(b Batch) api.Errno {
	switch {
	case b.Seq <= 0 || b.Seq > 1<<40-64:
		return api.ErrRange
	case len(b.Changes) == 0 || len(b.Changes) > 64:
		return api.ErrCount
	}
	for _, c := range b.Changes {
		switch {
		case c.Key == "" || len(c.Key) > 96:
			return api.ErrName
		case len(c.Value) > 512:
			return api.ErrLong
		case c.Del && len(c.Value) > 0:
			return api.ErrArg
		}
	}
	return api.OK
}

// P1 of DOC.md: whatever the octets and batches, the calls answer as the chapter says.

func FuzzAnyOctets(f *testing.F) {
	whole, ends := logOf(few())
	f.Add(whole)
	f.Add(whole[:ends[1]+4])
	for _, b := range samples()[:5] {
		f.Add(laid(b))
	}
	for _, b := range stops() {
		f.Add(b)
	}
	f.Fuzz(func(t *testing.T, x []byte) {
		x = x[:min(len(x), api.MaxData)]
		b, e := Decode(x)
		want, wrong := modelDecode(x)
		if e != wrong || !same(b, want) {
			t.Fatalf("P6.1: Decode(%x): %v, error %d; want %v, error %d", x, b, e, want, wrong)
		}
		if e == api.OK {
			if again, e := Encode(b); e != api.OK || !bytes.Equal(again, x) {
				t.Fatalf("P6.3: Decode took %x, but Encode of it is %x, error %d", x, again, e)
			}
		}
		// The same octets as a record: behind a batch that they follow, and behind one that they do not.
		one := record(1, x)
		for _, gap := range []int{0, 1} {
			ahead := Batch{want.Seq - 1 - gap, many(1)}
			if wrong != api.OK || ahead.Seq < 1 {
				ahead.Seq = 1
			}
			log := slices.Concat(record(1, laid(ahead)), one)
			all, n := []Batch{ahead}, len(log)-len(one)
			if wrong == api.OK && want.Seq == ahead.Seq+1 {
				all, n = append(all, want), len(log)
			}
			replayed(t, "P6.2", "any octets", log, all, n)
		}
		Replay(x)
	})
}

func FuzzAnyBatch(f *testing.F) {
	f.Add(1, 1, "a", false, "x", "b", true, "")
	f.Add(0, 65, "", true, "x", "b", true, "y")
	f.Add(1<<40-64, 64, filled(96), false, filled(512), filled(97), false, filled(513))
	f.Fuzz(func(t *testing.T, seq, n int, key string, del bool, value, key2 string, del2 bool, value2 string) {
		b := Batch{seq, slices.Repeat([]api.Change{{Key: key, Del: del, Value: value}}, max(0, n%70))}
		if n > 2 {
			b.Changes = append(b.Changes, api.Change{Key: key2, Del: del2, Value: value2})
		}
		why := modelCheck(b)
		if e := Check(b); e != why {
			t.Fatalf("P6.1: Check(%v): error %d; want %d", b, e, why)
		}
		x, e := Encode(b)
		log, e2 := Add([]byte("log"), b)
		l, e3 := Entries(b)
		if e != why || e2 != why || e3 != why {
			t.Fatalf("P6.1: Encode, Add, Entries of %v: errors %d, %d, %d; want %d", b, e, e2, e3, why)
		}
		if why != api.OK {
			if len(x) != 0 || len(log) != 0 || len(l) != 0 {
				t.Fatalf("P6.1: %v: something beside error %d", b, why)
			}
			return
		}
		if !bytes.Equal(x, laid(b)) || !bytes.Equal(log, slices.Concat([]byte("log"), record(1, laid(b)))) || !slices.Equal(l, versions(b)) {
			t.Fatalf("P6.1: %v: %x, %x, %v", b, x, log, l)
		}
		decoded(t, "P6.3", x, b)
	})
}
