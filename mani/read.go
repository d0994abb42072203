package mani

import (
	"remembrancer/api"
	"remembrancer/reader"
)

// read takes a manifest out of the texts of all frames. Whether it may be is not asked here:
// a number that 63 bits don't hold is answered as one below 0, which no manifest that may be has.
func read(texts [][]byte) (api.Manifest, bool) {
	if len(texts) == 0 {
		return api.Manifest{}, false
	}
	m, parts, ok := readHead(texts[0])
	rest := texts[1:]
	// It ends where the texts do, however many parts are told of.
	for ; ok && parts > 0; parts-- {
		var p api.Part
		p, rest, ok = readPart(rest)
		m.Parts = append(m.Parts, p)
	}
	return m, ok && len(rest) == 0
}

// readHead tells how many parts follow.
func readHead(text []byte) (m api.Manifest, parts uint64, ok bool) {
	r := reader.New(text)
	r.Mark(mark)
	m.N = int(r.Number())
	m.Txn = int(r.Number())
	for n := r.Number(); n > 0 && r.Good(); n-- {
		m.Offsets = append(m.Offsets, int(r.Number()))
	}
	parts = r.Number()
	return m, parts, r.Done()
}

// readPart takes the first text and those of its segments, and tells what is left.
func readPart(texts [][]byte) (p api.Part, rest [][]byte, ok bool) {
	if len(texts) == 0 {
		return api.Part{}, nil, false
	}
	r := reader.New(texts[0])
	p.Base = r.Text(api.MaxName)
	p.At = int(r.Number())
	p.Upto = int(r.Number())
	segs := r.Number()
	rest = texts[1:]
	if !r.Done() || segs > uint64(len(rest)) {
		return api.Part{}, nil, false
	}
	for _, name := range rest[:segs] {
		p.Segs = append(p.Segs, string(name))
	}
	return p, rest[segs:], true
}
