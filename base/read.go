package base

import (
	"remembrancer/api"
	"remembrancer/num"
)

// What stands behind a cell's key: whether a value follows.
const (
	without = 0
	with    = 1
)

// read takes at and the cells out of the texts of all frames. Of the cells themselves state judges.
func read(texts [][]byte) (at int, cells []api.Cell, ok bool) {
	if len(texts) == 0 {
		return 0, nil, false
	}
	at, ok = readHead(texts[0], len(texts)-1)
	if !ok {
		return 0, nil, false
	}
	for _, text := range texts[1:] {
		c, ok := readCell(text)
		if !ok {
			return 0, nil, false
		}
		cells = append(cells, c)
	}
	return at, cells, true
}

// readHead: cells is how many there are behind it, which it must tell.
func readHead(text []byte, cells int) (at int, ok bool) {
	if len(text) == 0 || text[0] != mark {
		return 0, false
	}
	r := reader{rest: text[1:]}
	n := r.number()
	count := r.number()
	if !r.done() || n > api.MaxSeq || count != uint64(cells) {
		return 0, false
	}
	return int(n), true
}

func readCell(text []byte) (api.Cell, bool) {
	r := reader{rest: text}
	var c api.Cell
	c.Key = r.key()
	c.Has, c.Value = r.value()
	c.List = r.list()
	c.Dict = r.fields()
	return c, r.done()
}

// reader takes one number behind the other, until one of them is none: from then on it answers 0.
type reader struct {
	rest []byte
	bad  bool
}

// done tells whether all was right, and nothing is left over.
func (r *reader) done() bool {
	return !r.bad && len(r.rest) == 0
}

// key answers a number that 63 bits don't hold as one below 0, which no key that may be has.
func (r *reader) key() api.Key {
	group := r.number()
	ns := r.number()
	id := r.number()
	return api.Key{Group: int(group), Ns: int(ns), Id: int(id)}
}

func (r *reader) value() (has bool, n int64) {
	switch r.number() {
	case without:
		return false, 0
	case with:
		return true, r.signed()
	}
	r.bad = true
	return false, 0
}

// list stops where the bytes do, however many numbers are told of.
func (r *reader) list() []int64 {
	var out []int64
	for n := r.number(); n > 0 && !r.bad; n-- {
		out = append(out, r.signed())
	}
	return out
}

// fields: as list. An F that 63 bits don't hold is answered as one below 0, which no field is.
func (r *reader) fields() []api.Field {
	var out []api.Field
	for n := r.number(); n > 0 && !r.bad; n-- {
		f := r.number()
		v := r.signed()
		out = append(out, api.Field{F: int64(f), V: v})
	}
	return out
}

func (r *reader) number() uint64 {
	if r.bad {
		return 0
	}
	n, took, e := num.Get(r.rest)
	r.pass(took, e)
	return n
}

func (r *reader) signed() int64 {
	if r.bad {
		return 0
	}
	n, took, e := num.GetInt(r.rest)
	r.pass(took, e)
	return n
}

func (r *reader) pass(took int, e api.Errno) {
	r.rest = r.rest[took:]
	r.bad = e != api.OK
}
