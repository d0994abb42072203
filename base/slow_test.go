package base

import (
	"bytes"
	"encoding/binary"
	"hash/adler32"
	"slices"

	"remembrancer/api"
)

// slowFrame writes a frame as the chapter of frames says, by other means than the program's.
func slowFrame(text []byte) []byte {
	out := uvar(uint64(len(text)))
	out = binary.LittleEndian.AppendUint32(out, adler32.Checksum(text))
	return append(out, text...)
}

// slowFrames are the frames of all texts, one behind the other.
func slowFrames(texts ...[]byte) []byte {
	var out []byte
	for _, text := range texts {
		out = append(out, slowFrame(text)...)
	}
	return out
}

// uvar is n as numbers are written, svar as those that may be below 0 are.
func uvar(n uint64) []byte { return binary.AppendUvarint(nil, n) }

func svar(n int64) []byte { return binary.AppendVarint(nil, n) }

func slowHead(at, cells int) []byte {
	return slices.Concat([]byte("B"), uvar(uint64(at)), uvar(uint64(cells)))
}

func slowCell(c api.Cell) []byte {
	parts := [][]byte{uvar(uint64(c.Key.Group)), uvar(uint64(c.Key.Ns)), uvar(uint64(c.Key.Id))}
	if c.Has {
		parts = append(parts, []byte{1}, svar(c.Value))
	} else {
		parts = append(parts, []byte{0})
	}
	parts = append(parts, uvar(uint64(len(c.List))))
	for _, n := range c.List {
		parts = append(parts, svar(n))
	}
	parts = append(parts, uvar(uint64(len(c.Dict))))
	for _, field := range c.Dict {
		parts = append(parts, uvar(uint64(field.F)), svar(field.V))
	}
	return slices.Concat(parts...)
}

// slowTexts are the texts of all frames of a snapshot.
func slowTexts(at int, cs ...api.Cell) [][]byte {
	texts := [][]byte{slowHead(at, len(cs))}
	for _, c := range cs {
		texts = append(texts, slowCell(c))
	}
	return texts
}

func slowBase(at int, cs ...api.Cell) []byte {
	return slowFrames(slowTexts(at, cs...)...)
}

// slowAll takes frames as long as they are right; of one that is not right it asks frame by frame what is said of it.
func slowAll(b []byte) (texts [][]byte, e api.Errno) {
	for len(b) > 0 {
		n, took, e := slowLength(b)
		rest := b[took:]
		switch {
		case e != api.OK:
			return nil, e
		case n > 4096:
			return nil, api.ErrLarge
		case len(rest) < 4 || uint64(len(rest)-4) < n:
			return nil, api.ErrTorn
		case binary.LittleEndian.Uint32(rest) != adler32.Checksum(rest[4:4+n]):
			return nil, api.ErrSum
		}
		texts, b = append(texts, rest[4:4+n]), rest[4+n:]
	}
	return texts, api.OK
}

// slowLength takes a number from b's first byte on, and holds what it took against what would have been written.
func slowLength(b []byte) (uint64, int, api.Errno) {
	end := slices.IndexFunc(b[:min(len(b), 10)], func(c byte) bool { return c < 128 })
	if end < 0 && len(b) < 10 {
		return 0, 0, api.ErrTorn
	}
	n, took := binary.Uvarint(b[:end+1])
	if took <= 0 || !bytes.Equal(uvar(n), b[:took]) {
		return 0, 0, api.ErrForm
	}
	return n, took, api.OK
}

// loose takes numbers as they come, without asking whether they are right: what is wrong shows when they are written anew.
type loose struct{ b []byte }

func (l *loose) uvar() uint64 {
	n, took := binary.Uvarint(l.b)
	l.b = l.b[max(took, 0):]
	return n
}

func (l *loose) svar() int64 {
	n, took := binary.Varint(l.b)
	l.b = l.b[max(took, 0):]
	return n
}

func (l *loose) cell() api.Cell {
	c := api.Cell{Key: api.Key{Group: int(l.uvar()), Ns: int(l.uvar()), Id: int(l.uvar())}}
	if c.Has = l.uvar() > 0; c.Has {
		c.Value = l.svar()
	}
	for range min(l.uvar(), 5000) {
		c.List = append(c.List, l.svar())
	}
	for range min(l.uvar(), 5000) {
		f := int64(l.uvar())
		c.Dict = append(c.Dict, api.Field{F: f, V: l.svar()})
	}
	return c
}

// slowGet takes what it can, writes it anew, and holds that against what was there.
func slowGet(b []byte) (at int, cs []api.Cell, e api.Errno) {
	texts, e := slowAll(b)
	if e != api.OK {
		return 0, nil, e
	}
	if len(texts) == 0 || len(texts[0]) == 0 {
		return 0, nil, api.ErrForm
	}
	head := loose{texts[0][1:]}
	at = int(head.uvar())
	for _, text := range texts[1:] {
		l := loose{text}
		cs = append(cs, l.cell())
	}
	if at < 0 || at > 10000 || !slowMay(cs) || !bytes.Equal(slowBase(at, cs...), b) {
		return 0, nil, api.ErrForm
	}
	return at, cs, api.OK
}

// slowMay is which cells may be, written out once more.
func slowMay(cs []api.Cell) bool {
	last := -1
	for _, c := range cs {
		k := c.Key
		if k.Group < 0 || k.Group > 3 || k.Ns < 0 || k.Ns > 1 || k.Id < 0 || k.Id > 23 {
			return false
		}
		number := 1000*k.Group + 100*k.Ns + k.Id
		if number <= last || len(c.List) > 100 || !c.Has && len(c.List)+len(c.Dict) == 0 {
			return false
		}
		last = number
		field := int64(-1)
		for _, f := range c.Dict {
			if f.F <= field || f.F > 7 {
				return false
			}
			field = f.F
		}
	}
	return true
}
