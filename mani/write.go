package mani

import (
	"remembrancer/api"
	"remembrancer/num"
)

// mark is the first byte of a head's text.
const mark = 'M'

// texts are those of all frames, the head's first: none is longer than a frame may be, if the manifest may be.
func texts(m api.Manifest) [][]byte {
	out := [][]byte{headText(m)}
	for _, p := range m.Parts {
		out = append(out, partText(p))
		for _, name := range p.Segs {
			out = append(out, []byte(name))
		}
	}
	return out
}

func headText(m api.Manifest) []byte {
	text := numbers([]byte{mark}, m.N, m.Txn, len(m.Offsets))
	text = numbers(text, m.Offsets...)
	return numbers(text, len(m.Parts))
}

func partText(p api.Part) []byte {
	return numbers(num.Text(nil, p.Base), p.At, p.Upto, len(p.Segs))
}

func numbers(text []byte, ns ...int) []byte {
	for _, n := range ns {
		text = num.Put(text, uint64(n))
	}
	return text
}
