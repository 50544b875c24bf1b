package wal

import (
	"tickler/api"
	"tickler/varint"
)

// reader reads a batch from the octets that are left. Where they are none it panics with the error's number, so that no part of a batch needs to hand an error on.
type reader struct {
	left []byte
}

// read: the batch of x as it stands there, whether it may be or not.
func read(x []byte) (b Batch, e api.Errno) {
	defer func() {
		fault := recover()
		if fault == nil {
			return
		}
		// Of one value, so that a fault of the program's own would not be taken for one of the octets.
		e = fault.(api.Errno)
	}()
	r := reader{left: x}
	b = r.batch()
	if len(r.left) > 0 {
		panic(api.ErrTail)
	}
	return b, api.OK
}

func (r *reader) batch() Batch {
	b := Batch{Seq: r.number()}
	count := r.number()
	if count > api.MaxBatch {
		panic(api.ErrCount)
	}
	for range count {
		b.Changes = append(b.Changes, r.change())
	}
	return b
}

func (r *reader) change() api.Change {
	kind := r.take(1)[0]
	if kind != hasValue && kind != isGone {
		panic(api.ErrKind)
	}
	c := api.Change{Key: r.text(), Del: kind == isGone}
	if !c.Del {
		c.Value = r.text()
	}
	return c
}

func (r *reader) text() string {
	length := r.number()
	// No record holds more.
	if length > api.MaxData {
		panic(api.ErrLong)
	}
	return string(r.take(length))
}

func (r *reader) number() int {
	n, size, e := varint.Get(r.left)
	if e != api.OK {
		panic(e)
	}
	// Ahead of any reckoning with it, so that a number of any size cannot overflow.
	if n > api.MaxSeq {
		panic(api.ErrRange)
	}
	r.left = r.left[size:]
	return int(n)
}

// take: the next n octets, which stay where they are.
func (r *reader) take(n int) []byte {
	if len(r.left) < n {
		panic(api.ErrShort)
	}
	taken := r.left[:n]
	r.left = r.left[n:]
	return taken
}
