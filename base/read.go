package base

import (
	"remembrancer/api"
	"remembrancer/reader"
)

// What stands behind a cell's key: whether a value follows.
const (
	without = 0
	with    = 1
)

// read takes at and the cells out of the texts of all frames. Of the cells themselves state judges.
func read(texts [][]byte) (at int, cells []api.Cell, ok bool) {
	if len(texts) == 0 {
		return 0, nil, false
	}
	at, ok = readHead(texts[0], len(texts)-1)
	if !ok {
		return 0, nil, false
	}
	for _, text := range texts[1:] {
		c, ok := readCell(text)
		if !ok {
			return 0, nil, false
		}
		cells = append(cells, c)
	}
	return at, cells, true
}

// readHead: cells is how many there are behind it, which it must tell.
func readHead(text []byte, cells int) (at int, ok bool) {
	r := reader.New(text)
	r.Mark(mark)
	n := r.Number()
	count := r.Number()
	if !r.Done() || n > api.MaxSeq || count != uint64(cells) {
		return 0, false
	}
	return int(n), true
}

func readCell(text []byte) (api.Cell, bool) {
	r := reader.New(text)
	var c api.Cell
	c.Key = readKey(r)
	c.Has, c.Value = readValue(r)
	c.List = readList(r)
	c.Dict = readFields(r)
	return c, r.Done()
}

// readKey answers a number that 63 bits don't hold as one below 0, which no key that may be has.
func readKey(r *reader.Reader) api.Key {
	group := r.Number()
	ns := r.Number()
	id := r.Number()
	return api.Key{Group: int(group), Ns: int(ns), Id: int(id)}
}

func readValue(r *reader.Reader) (has bool, n int64) {
	switch r.Number() {
	case without:
		return false, 0
	case with:
		return true, r.Int()
	}
	r.Fail()
	return false, 0
}

// readList stops where the bytes do, however many numbers are told of.
func readList(r *reader.Reader) []int64 {
	var out []int64
	for n := r.Number(); n > 0 && r.Good(); n-- {
		out = append(out, r.Int())
	}
	return out
}

// readFields: as readList. An F that 63 bits don't hold is answered as one below 0, which no field is.
func readFields(r *reader.Reader) []api.Field {
	var out []api.Field
	for n := r.Number(); n > 0 && r.Good(); n-- {
		f := r.Number()
		v := r.Int()
		out = append(out, api.Field{F: int64(f), V: v})
	}
	return out
}
