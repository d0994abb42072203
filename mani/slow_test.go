package mani

import (
	"bytes"
	"encoding/binary"
	"slices"
	"strings"

	"remembrancer/api"
	"remembrancer/frame"
)

// uvar is n as numbers are written; of n below 0 its 64 bits.
func uvar(n int) []byte { return binary.AppendUvarint(nil, uint64(n)) }

// uvars are numbers one behind the other.
func uvars(ns ...int) []byte {
	var out []byte
	for _, n := range ns {
		out = append(out, uvar(n)...)
	}
	return out
}

// slowHead is a head's text with any number of parts told of.
func slowHead(n, txn int, offsets []int, parts int) []byte {
	return slices.Concat([]byte("M"), uvars(n, txn, len(offsets)), uvars(offsets...), uvar(parts))
}

// slowPart is a part's text with any number of segments told of.
func slowPart(p api.Part, segs int) []byte {
	return slices.Concat(uvar(len(p.Base)), []byte(p.Base), uvars(p.At, p.Upto, segs))
}

// slowTexts are the texts of all frames, whether the manifest may be or not.
func slowTexts(m api.Manifest) [][]byte {
	out := [][]byte{slowHead(m.N, m.Txn, m.Offsets, len(m.Parts))}
	for _, p := range m.Parts {
		out = append(out, slowPart(p, len(p.Segs)))
		for _, s := range p.Segs {
			out = append(out, []byte(s))
		}
	}
	return out
}

// slowBytes are the frames of these texts; of one beyond a frame's bound as well, so that it is there to be refused.
func slowBytes(texts ...[]byte) []byte {
	var out []byte
	for _, text := range texts {
		if len(text) > 4096 {
			out = append(out, uvar(len(text))...)
			out = append(out, make([]byte, 4)...)
			out = append(out, text...)
			continue
		}
		out = append(out, frame.Put(nil, text)...)
	}
	return out
}

func slowMani(m api.Manifest) []byte { return slowBytes(slowTexts(m)...) }

// slowMay goes through the chapter's words one by one, and says which of them do not hold.
func slowMay(m api.Manifest) bool {
	wrong := 0
	count := func(holds bool) {
		if !holds {
			wrong++
		}
	}
	count(m.N > 0)
	count(m.N < 100000)
	count(m.Txn == m.N)
	count(len(m.Offsets) == 1 || len(m.Offsets) == 2 || len(m.Offsets) == 3)
	for _, o := range m.Offsets {
		count(o > -1)
		count(o < 61)
	}
	count(len(m.Parts) == 1 || len(m.Parts) == 2 || len(m.Parts) == 3)
	for _, p := range m.Parts {
		count(p.At > -1)
		count(p.At < 10001)
		if p.Base == "" {
			count(p.At == 0)
		} else {
			count(p.At != 0)
		}
		count(p.Upto >= p.At)
		count(p.Upto < 10001)
		count(len(p.Base) < 41)
		count(len(p.Segs) < 1001)
		for _, s := range p.Segs {
			count(s != "")
			count(len(s) < 41)
			count(p.Upto != p.At)
		}
	}
	return wrong == 0
}

// slowSame writes both out, with what parts each thing from the next.
func slowSame(a, b api.Manifest) bool {
	return bytes.Equal(slowMani(a), slowMani(b))
}

// loose takes numbers as they come, without asking whether they are right: what is wrong shows when they are written anew.
type loose struct{ b []byte }

func (l *loose) number() int {
	n, took := binary.Uvarint(l.b)
	l.b = l.b[max(took, 0):]
	return int(n)
}

func (l *loose) text() string {
	n := min(uint64(l.number()), uint64(len(l.b)))
	s := string(l.b[:n])
	l.b = l.b[n:]
	return s
}

// slowGet takes what it can, writes it anew, and holds that against what was there.
func slowGet(b []byte) (api.Manifest, api.Errno) {
	texts, _, e := frame.All(b)
	if e != api.OK {
		return api.Manifest{}, e
	}
	if len(texts) == 0 || len(texts[0]) == 0 {
		return api.Manifest{}, api.ErrForm
	}
	head := loose{texts[0][1:]}
	m := api.Manifest{N: head.number(), Txn: head.number()}
	for range min(uint64(head.number()), 5000) {
		m.Offsets = append(m.Offsets, head.number())
	}
	texts = texts[1:]
	for len(texts) > 0 {
		l := loose{texts[0]}
		p := api.Part{Base: l.text(), At: l.number(), Upto: l.number()}
		segs := min(uint64(l.number()), uint64(len(texts)-1))
		for _, text := range texts[1 : 1+segs] {
			p.Segs = append(p.Segs, string(text))
		}
		m.Parts, texts = append(m.Parts, p), texts[1+segs:]
	}
	if !slowMay(m) || !bytes.Equal(slowMani(m), b) {
		return api.Manifest{}, api.ErrForm
	}
	return m, api.OK
}

// slowNeeds asks each name whether one that is there is below it.
func slowNeeds(m api.Manifest) []string {
	var all, out []string
	for _, p := range m.Parts {
		all = append(append(all, p.Base), p.Segs...)
	}
	last := ""
	for {
		next := ""
		for _, s := range all {
			if s > last && (next == "" || s < next) {
				next = s
			}
		}
		if next == "" {
			return out
		}
		out, last = append(out, next), next
	}
}

// slowName counts the digits off.
func slowName(n int) string {
	if n < 1 || n > 99999 {
		return ""
	}
	var out strings.Builder
	out.WriteByte('c')
	for _, ten := range []int{10000, 1000, 100, 10, 1} {
		out.WriteByte("0123456789"[n/ten%10])
	}
	return out.String()
}

// deep is m in memory of its own.
func deep(m api.Manifest) api.Manifest {
	m.Offsets, m.Parts = slices.Clone(m.Offsets), slices.Clone(m.Parts)
	for i := range m.Parts {
		m.Parts[i].Segs = slices.Clone(m.Parts[i].Segs)
	}
	return m
}
