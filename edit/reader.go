package edit

import (
	"tickler/api"
	"tickler/varint"
)

// reader reads octets from the first on. Behind its first error it reads nothing any more, so that the error that stays is the first in the order of the octets.
type reader struct {
	left []byte
	why  api.Errno
}

// refuse: the first error stays, and no octets are left to be read.
func (r *reader) refuse(why api.Errno) {
	if r.why == api.OK {
		r.why = why
	}
	r.left = nil
}

// edit: an edit.
func (r *reader) edit() Edit {
	var e Edit
	e.Seq = r.number()
	e.Next = r.number()
	for range r.count() {
		e.Drop = append(e.Drop, r.number())
	}
	for range r.count() {
		e.Add = append(e.Add, r.meta())
	}
	return e
}

// meta: a table's meta.
func (r *reader) meta() Meta {
	var numbers [numberCount]int
	for i := range numbers {
		numbers[i] = r.number()
	}
	var texts [textCount]string
	for i := range texts {
		texts[i] = r.text()
	}
	return Meta{
		ID:    numbers[idNumber],
		Level: numbers[levelNumber],
		Count: numbers[countNumber],
		Low:   texts[lowText],
		High:  texts[highText],
	}
}

// number: a number that may be written.
func (r *reader) number() int {
	n, size, why := varint.Get(r.left)
	if why == api.OK && n > api.MaxSeq {
		why = api.ErrArg
	}
	if why != api.OK {
		r.refuse(why)
		return 0
	}
	r.left = r.left[size:]
	return int(n)
}

// count: how many IDs or metas follow.
func (r *reader) count() int {
	n := r.number()
	if n > topItems {
		r.refuse(api.ErrCount)
		return 0
	}
	return n
}

// text: a text behind its length.
func (r *reader) text() string {
	n := r.number()
	if n > api.MaxKey {
		r.refuse(api.ErrArg)
		return ""
	}
	if n > len(r.left) {
		r.refuse(api.ErrShort)
		return ""
	}
	s := string(r.left[:n])
	r.left = r.left[n:]
	return s
}

// end: nothing may be left.
func (r *reader) end() {
	if len(r.left) > 0 {
		r.refuse(api.ErrTail)
	}
}
