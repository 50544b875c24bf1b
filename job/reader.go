package job

import (
	"tickler/api"
	"tickler/varint"
)

// topLength is how many octets a text may be told to have ahead of them: which text it is makes no difference there.
const topLength = 256

// reader reads octets from the first on. Behind its first error it reads nothing any more, so that the error that stays is the first in the order of the octets.
type reader struct {
	left []byte
	why  api.Errno
}

// refuse: the first error stays, and no octets are left to be read.
func (r *reader) refuse(why api.Errno) {
	if r.why == api.OK {
		r.why = why
	}
	r.left = nil
}

// job: a job, if it may be or not.
func (r *reader) job() Job {
	var numbers [numberCount]int
	for i := range numbers {
		numbers[i] = r.number()
	}
	var texts [textCount]string
	for i := range texts {
		texts[i] = r.text()
	}
	return Job{
		ID:      numbers[idNumber],
		Name:    texts[nameText],
		Rule:    texts[ruleText],
		Payload: texts[payloadText],
		Status:  numbers[statusNumber],
		Due:     numbers[dueNumber],
		Tries:   numbers[triesNumber],
		Worker:  numbers[workerNumber],
		Token:   numbers[tokenNumber],
		Until:   numbers[untilNumber],
	}
}

// number: a number that is not too high for any of a job's.
func (r *reader) number() int {
	n, size, why := varint.Get(r.left)
	if why == api.OK && n > topNumber {
		why = api.ErrRange
	}
	if why != api.OK {
		r.refuse(why)
		return 0
	}
	r.left = r.left[size:]
	return int(n)
}

// text: a text behind its length.
func (r *reader) text() string {
	n := r.number()
	if n > topLength {
		r.refuse(api.ErrLong)
		return ""
	}
	if n > len(r.left) {
		r.refuse(api.ErrShort)
		return ""
	}
	text := string(r.left[:n])
	r.left = r.left[n:]
	return text
}

// end: nothing may be left.
func (r *reader) end() {
	if len(r.left) > 0 {
		r.refuse(api.ErrTail)
	}
}
