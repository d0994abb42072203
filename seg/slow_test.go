package seg

import (
	"bytes"
	"encoding/binary"
	"hash/adler32"
	"slices"

	"remembrancer/api"
)

// slowFrame writes a frame as the chapter of frames says, by other means than the program's.
func slowFrame(text []byte) []byte {
	out := binary.AppendUvarint(nil, uint64(len(text)))
	out = binary.LittleEndian.AppendUint32(out, adler32.Checksum(text))
	return append(out, text...)
}

// slowMay is which changes may be, written out once more.
func slowMay(m api.Mut) bool {
	k := m.Key
	if k.Group < 0 || k.Group > 3 || k.Ns < 0 || k.Ns > 1 || k.Id < 0 || k.Id > 23 {
		return false
	}
	switch m.Kind {
	case 1, 3:
		return m.F == 0
	case 2, 4:
		return m.F == 0 && m.V == 0
	case 5:
		return m.F >= 0 && m.F <= 7
	case 6:
		return m.F >= 0 && m.F <= 7 && m.V == 0
	}
	return false
}

// slowChange is a change's bytes, of one that may be.
func slowChange(m api.Mut) []byte {
	out := []byte{byte(m.Kind), byte(m.Key.Group), byte(m.Key.Ns), byte(m.Key.Id)}
	switch m.Kind {
	case 1, 3:
		out = binary.AppendVarint(out, m.V)
	case 5:
		out = binary.AppendVarint(append(out, byte(m.F)), m.V)
	case 6:
		out = append(out, byte(m.F))
	}
	return out
}

func slowHead(from int) []byte {
	return slowFrame(binary.AppendUvarint([]byte("S"), uint64(from)))
}

// slowSeg is a segment of changes that may be, whatever their numbers.
func slowSeg(from int, ms ...api.Mut) []byte {
	out := slowHead(from)
	for _, m := range ms {
		out = append(out, slowFrame(slowChange(m))...)
	}
	return out
}

func slowPut(from int, ms ...api.Mut) ([]byte, api.Errno) {
	for i := range max(1, len(ms)) {
		if number := from + i; number < 1 || number > 10000 {
			return nil, api.ErrRange
		}
	}
	for _, m := range ms {
		if !slowMay(m) {
			return nil, api.ErrForm
		}
	}
	out := slowSeg(from, ms...)
	if len(out) > 65536 {
		return nil, api.ErrLarge
	}
	return out, api.OK
}

// slowNumber takes a number from b, and holds what it took against what would have been written.
func slowNumber(b []byte) (uint64, int, api.Errno) {
	end := slices.IndexFunc(b[:min(len(b), 10)], func(c byte) bool { return c < 128 })
	if end < 0 && len(b) < 10 {
		return 0, 0, api.ErrTorn
	}
	n, took := binary.Uvarint(b[:end+1])
	if took <= 0 || !bytes.Equal(binary.AppendUvarint(nil, n), b[:took]) {
		return 0, 0, api.ErrForm
	}
	return n, took, api.OK
}

// slowFrames are the texts of b's frames as long as they are right, where each of them ends, and what stopped them.
func slowFrames(b []byte) (texts [][]byte, ends []int, e api.Errno) {
	at := 0
	for at < len(b) {
		length, took, e := slowNumber(b[at:])
		switch {
		case e != api.OK:
			return texts, ends, e
		case length > 4096:
			return texts, ends, api.ErrLarge
		case uint64(len(b)-at-took) < 4+length:
			return texts, ends, api.ErrTorn
		}
		text := b[at+took+4:][:length]
		if !bytes.Equal(b[at:][:took+4+int(length)], slowFrame(text)) {
			return texts, ends, api.ErrSum
		}
		at += took + 4 + int(length)
		texts, ends = append(texts, text), append(ends, at)
	}
	return texts, ends, api.OK
}

// slowNumberOf looks for the number whose head is written so.
func slowNumberOf(text []byte) (int, api.Errno) {
	if len(text) == 0 || text[0] != 'S' {
		return 0, api.ErrForm
	}
	n, took, e := slowNumber(text[1:])
	if e != api.OK || took < len(text)-1 {
		return 0, api.ErrForm
	}
	for from := 1; from <= 10000; from++ {
		if n == uint64(from) {
			return from, api.OK
		}
	}
	return 0, api.ErrRange
}

// slowChangeOf reads what may be there, and holds what would be written of it against all of the text.
func slowChangeOf(text []byte) (api.Mut, bool) {
	if len(text) < 4 {
		return api.Mut{}, false
	}
	m := api.Mut{Kind: int(text[0]), Key: api.Key{Group: int(text[1]), Ns: int(text[2]), Id: int(text[3])}}
	rest := text[4:]
	if (m.Kind == 5 || m.Kind == 6) && len(rest) > 0 {
		m.F, rest = int64(rest[0]), rest[1:]
	}
	if m.Kind%2 == 1 {
		m.V, _ = binary.Varint(rest)
	}
	if !slowMay(m) || !bytes.Equal(slowChange(m), text) {
		return api.Mut{}, false
	}
	return m, true
}

// slowGet takes all frames first, then looks into them.
func slowGet(b []byte) (from int, ms []api.Mut, n int, e api.Errno) {
	texts, ends, e := slowFrames(b)
	if len(b) == 0 {
		return 0, nil, 0, api.ErrTorn
	}
	if len(texts) == 0 {
		return 0, nil, 0, e
	}
	from, headE := slowNumberOf(texts[0])
	if headE != api.OK {
		return 0, nil, 0, headE
	}
	for i, text := range texts[1:] {
		m, ok := slowChangeOf(text)
		if !ok {
			return from, ms, ends[i], api.ErrForm
		}
		if from+i > 10000 {
			return from, ms, ends[i], api.ErrRange
		}
		ms = append(ms, m)
	}
	return from, ms, ends[len(ends)-1], e
}

// slowWhole goes through the numbers that are asked for, beside those that are there.
func slowWhole(b []byte, from, upto int) ([]api.Mut, api.Errno) {
	first, ms, _, e := slowGet(b)
	if e != api.OK {
		return nil, e
	}
	next := first
	for range ms {
		next++
	}
	if from != first || upto == next || upto+1 != next {
		return nil, api.ErrForm
	}
	return ms, api.OK
}
