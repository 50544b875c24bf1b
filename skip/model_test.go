package skip

import (
	"slices"
	"testing"

	"tickler/api"
)

// stands: may a node have x? Reckoned without skip.
func stands(x api.Entry) bool {
	room := map[int]int{1: 512, 2: 0}
	longest, kind := room[x.Kind]
	return kind && len(x.Value) <= longest && x.Key != "" && len(x.Key) < 97 && x.Seq > 0 && x.Seq-1 < 1<<40
}

// modelCheck: what Check should answer of s. Versions and heights tell a list whole, so that it is held against the one that they tell.
func modelCheck(s State) api.Errno {
	if len(s.Nodes) > 4096 {
		return api.ErrState
	}
	var l []high
	for _, n := range s.Nodes {
		_, twice := find(l, n.Entry)
		if twice || !stands(n.Entry) || len(n.Next) == 0 || len(n.Next) > 8 {
			return api.ErrState
		}
		l = append(l, high{n.Entry, len(n.Next)})
	}
	if !same(s, laid(l)) {
		return api.ErrState
	}
	return api.OK
}

// modelPut: what Put should answer.
func modelPut(s State, x api.Entry, height int) (State, api.Errno) {
	var l []high
	for _, n := range s.Nodes {
		l = append(l, high{n.Entry, len(n.Next)})
	}
	_, twice := find(l, x)
	switch {
	case modelCheck(s) != api.OK:
		return State{}, api.ErrState
	case !stands(x):
		return State{}, api.ErrArg
	case height <= 0 || height >= 9:
		return State{}, api.ErrRange
	case twice:
		return State{}, api.ErrTwice
	case len(l) == 4096:
		return State{}, api.ErrFull
	}
	return laid(append(l, high{x, height})), api.OK
}

// read: a list of as many nodes as there are threes of octets, some of them twice, some of no kind.
func read(b []byte) []high {
	var l []high
	for ; len(b) >= 3 && len(l) < 40; b = b[3:] {
		x := api.Entry{Key: string(b[:1]), Seq: int(b[1] & 31), Kind: int(b[1]>>5) % 4, Value: ""}
		if x.Kind == 1 && b[2] > 127 {
			x.Value = "v"
		}
		l = append(l, high{x, int(b[2] & 15)})
	}
	return l
}

// turn: s with ways turned, cut off or laid behind, two octets for each.
func turn(s State, b []byte) State {
	for ; len(b) >= 2 && len(s.Nodes) > 0; b = b[2:] {
		ways := &s.Head
		if k := int(b[0]) % (len(s.Nodes) + 1); k > 0 {
			ways = &s.Nodes[k-1].Next
		}
		switch {
		case b[1] > 250:
			*ways = append(*ways, 0)
		case b[1] > 245 && len(*ways) > 0:
			*ways = (*ways)[:len(*ways)-1]
		case len(*ways) > 0:
			(*ways)[int(b[1]>>5)%len(*ways)] = int(b[1]&31) - 1
		}
	}
	return s
}

// P1 of DOC.md: whatever the states, the calls answer as the chapter says.

func FuzzAnyState(f *testing.F) {
	f.Add([]byte("a\x21\x01b\x22\x02c\x43\x01"), []byte{}, "b", 2, 1, "", 3)
	f.Add([]byte("a\x21\x01b\x22\x02c\x43\x01"), []byte{1, 4}, "a", 2, 1, "v", 3)
	f.Add([]byte("a\x21\x01a\x22\x08a\x23\x01a\x24\x01"), []byte{}, "a", 7, 2, "v", 9)
	f.Add([]byte("a\x21\x01a\x21\x08\x00\x23\x01"), []byte{0, 251, 1, 246}, "", 0, 3, "", 0)
	f.Add([]byte("z\x21\x07y\x22\x08x\x23\x05a\x24\x01"), []byte{}, "y", 1, 1, "v", 8)
	f.Add([]byte{}, []byte{}, "k", 1<<40, 1, "", 8)
	f.Fuzz(func(t *testing.T, nodes, turns []byte, key string, seq, kind int, value string, height int) {
		s := turn(laid(read(nodes)), turns)
		why := modelCheck(s)
		if e := Check(s); e != why {
			t.Fatalf("P7.1: Check(%v): error %d; want %d", s, e, why)
		}
		x := api.Entry{Key: key, Seq: seq, Kind: kind, Value: value}
		want, wrong := modelPut(s, x, height)
		if got, e := Put(s, x, height); e != wrong || !same(got, want) {
			t.Fatalf("P7.1: Put(%v, %v, %d): %v, error %d; want %v, error %d", s, x, height, got, e, want, wrong)
		}
		all, e := All(s)
		if e != why || why != api.OK && len(all) != 0 {
			t.Fatalf("P7.2: All(%v): %v, error %d; want error %d", s, all, e, why)
		}
		if why != api.OK {
			if x, ok, e := Get(s, key, seq); ok || e != why || x != (api.Entry{}) {
				t.Fatalf("P7.2: Get(%v, %q, %d): %v, %t, error %d", s, key, seq, x, ok, e)
			}
			return
		}
		var l []high
		for _, n := range s.Nodes {
			l = append(l, high{n.Entry, len(n.Next)})
		}
		if !slices.Equal(all, versions(l)) {
			t.Fatalf("P7.2: All(%v): %v; want %v", s, all, versions(l))
		}
		gotten(t, s, l, key, seq)
		for i := range all {
			gotten(t, s, l, all[i].Key, seq)
			gotten(t, s, l, all[i].Key, all[i].Seq)
		}
	})
}
