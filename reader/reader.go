// Package reader takes numbers and texts, one behind the other, out of what a frame holds.
package reader

import (
	"bytes"

	"remembrancer/api"
	"remembrancer/num"
)

// Reader takes one thing behind the other, until one of them is not right: from then on it answers zero values.
// So whoever reads asks once, at the end, whether all was right.
type Reader struct {
	rest []byte
	bad  bool
}

// New is a reader of text, from its first byte on.
func New(text []byte) *Reader {
	return &Reader{rest: bytes.Clone(text)}
}

// Good tells whether all was right so far.
func (r *Reader) Good() bool {
	return r != nil && !r.bad
}

// Done tells whether all was right, and nothing is left over.
func (r *Reader) Done() bool {
	return r.Good() && len(r.rest) == 0
}

// Fail is for what only the one who reads can see: a number that is right, but not in its place.
func (r *Reader) Fail() {
	if r != nil {
		r.bad = true
	}
}

// Mark takes one byte, which must be mark.
func (r *Reader) Mark(mark byte) {
	if !r.Good() {
		return
	}
	if len(r.rest) == 0 || r.rest[0] != mark {
		r.bad = true
		return
	}
	r.rest = r.rest[1:]
}

// Number takes what num.Put wrote.
func (r *Reader) Number() uint64 {
	if !r.Good() {
		return 0
	}
	n, took, e := num.Get(r.rest)
	r.pass(took, e)
	return n
}

// Int takes what num.PutInt wrote.
func (r *Reader) Int() int64 {
	if !r.Good() {
		return 0
	}
	n, took, e := num.GetInt(r.rest)
	r.pass(took, e)
	return n
}

// Text takes what num.Text wrote, if it has at most so many bytes.
func (r *Reader) Text(most int) string {
	if !r.Good() {
		return ""
	}
	s, took, e := num.GetText(r.rest, most)
	r.pass(took, e)
	return s
}

func (r *Reader) pass(took int, e api.Errno) {
	r.rest = r.rest[took:]
	r.bad = e != api.OK
}
