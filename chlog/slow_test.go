package chlog

import (
	"bytes"
	"encoding/binary"
	"fmt"
	"hash/adler32"
	"slices"
	"strings"

	"remembrancer/api"
)

// slowFrame writes a frame as the chapter of frames says, by other means than the program's.
func slowFrame(text []byte) []byte {
	out := binary.AppendUvarint(nil, uint64(len(text)))
	out = binary.LittleEndian.AppendUint32(out, adler32.Checksum(text))
	return append(out, text...)
}

func slowHead(from int) []byte {
	return slowFrame(binary.AppendUvarint([]byte("S"), uint64(from)))
}

// slowMay is which changes may be, written out once more.
func slowMay(m api.Mut) bool {
	k := m.Key
	if k.Group < 0 || k.Group > 3 || k.Ns < 0 || k.Ns > 1 || k.Id < 0 || k.Id > 23 {
		return false
	}
	switch m.Kind {
	case 1, 3:
		return m.F == 0
	case 2, 4:
		return m.F == 0 && m.V == 0
	case 5:
		return m.F >= 0 && m.F <= 7
	case 6:
		return m.F >= 0 && m.F <= 7 && m.V == 0
	}
	return false
}

// slowChange is the frame of a change that may be.
func slowChange(m api.Mut) []byte {
	out := []byte{byte(m.Kind), byte(m.Key.Group), byte(m.Key.Ns), byte(m.Key.Id)}
	if m.Kind >= 5 {
		out = append(out, byte(m.F))
	}
	if m.Kind%2 == 1 {
		out = binary.AppendVarint(out, m.V)
	}
	return slowFrame(out)
}

// slowSeg is a segment of changes that may be, whatever their numbers.
func slowSeg(from int, ms ...api.Mut) []byte {
	out := slowHead(from)
	for _, m := range ms {
		out = append(out, slowChange(m)...)
	}
	return out
}

// slowChangeAt reads what may stand in b's first frame, and holds what would be written of it against what is there.
func slowChangeAt(b []byte) (api.Mut, int, bool) {
	if len(b) < 9 || b[0] > 16 {
		return api.Mut{}, 0, false
	}
	m := api.Mut{Kind: int(b[5]), Key: api.Key{Group: int(b[6]), Ns: int(b[7]), Id: int(b[8])}}
	rest := b[9:]
	if (m.Kind == 5 || m.Kind == 6) && len(rest) > 0 {
		m.F, rest = int64(rest[0]), rest[1:]
	}
	if m.Kind%2 == 1 {
		m.V, _ = binary.Varint(rest)
	}
	if !slowMay(m) || !bytes.HasPrefix(b, slowChange(m)) {
		return api.Mut{}, 0, false
	}
	return m, len(slowChange(m)), true
}

// slow is a log by other means than the package's: its changes by their numbers, and where its files begin.
type slow struct {
	size, next int
	ms         map[int]api.Mut
	begins     []int
	shut       map[int]bool // by where they begin: those that were closed by Close
}

func newSlow(size, next int) *slow {
	return &slow{size: size, next: next, ms: map[int]api.Mut{}, shut: map[int]bool{}}
}

func (s *slow) changes(from, upto int) []api.Mut {
	var out []api.Mut
	for n := from; n <= upto; n++ {
		out = append(out, s.ms[n])
	}
	return out
}

func (s *slow) spans() []api.Span {
	var out []api.Span
	for i, from := range s.begins {
		out = append(out, api.Span{From: from, Upto: append(s.begins, s.next)[i+1] - 1})
	}
	return out
}

// files are what the disk has to have of it.
func (s *slow) files() map[string]string {
	out := map[string]string{}
	for _, span := range s.spans() {
		out[fmt.Sprintf("s%05d", span.From)] = string(slowSeg(span.From, s.changes(span.From, span.Upto)...))
	}
	return out
}

func (s *slow) first() int {
	return append(slices.Clone(s.begins), s.next)[0]
}

// newest is where the last file begins: 0 where there is none.
func (s *slow) newest() int {
	return append([]int{0}, s.begins...)[len(s.begins)]
}

func (s *slow) isOpen() bool {
	from := s.newest()
	return from > 0 && !s.shut[from] && len(slowSeg(from, s.changes(from, s.next-1)...)) < s.size
}

func (s *slow) append(ms ...api.Mut) api.Errno {
	for _, m := range ms {
		if !slowMay(m) {
			return api.ErrForm
		}
	}
	if s.next+len(ms) > 10001 && len(ms) > 0 {
		return api.ErrOver
	}
	for _, m := range ms {
		if !s.isOpen() {
			s.begins = append(s.begins, s.next)
		}
		s.ms[s.next] = m
		s.next++
	}
	return api.OK
}

func (s *slow) close() {
	if from := s.newest(); from > 0 && from < s.next {
		s.shut[from] = true
	}
}

// read goes from number to number, until one is not there.
func (s *slow) read(from, upto int) ([]api.Mut, api.Errno) {
	var out []api.Mut
	if from > upto && uint64(from)-uint64(upto) != 1 {
		return nil, api.ErrRange
	}
	for n := from; n <= upto; n++ {
		m, there := s.ms[n]
		if !there {
			return nil, api.ErrRange
		}
		out = append(out, m)
	}
	return out, api.OK
}

// cut takes one change behind the other from the end, and each file as soon as it has none.
func (s *slow) cut(upto int) api.Errno {
	if upto < s.first()-1 || upto > s.next-1 {
		return api.ErrRange
	}
	s.dropIfEmpty()
	for s.next-1 > upto {
		s.next--
		delete(s.ms, s.next)
		s.shut[s.newest()] = false
		s.dropIfEmpty()
	}
	return api.OK
}

func (s *slow) dropIfEmpty() {
	if s.newest() == s.next {
		s.begins = s.begins[:len(s.begins)-1]
	}
}

func (s *slow) trim(upto int) int {
	gone := 0
	for _, span := range s.spans()[:max(len(s.begins)-1, 0)] {
		if span.Upto > upto {
			continue
		}
		gone++
		s.begins = s.begins[1:]
		for n := span.From; n <= span.Upto; n++ {
			delete(s.ms, n)
		}
	}
	return gone
}

// slowOpen is the log that is to be found in files by names.
func slowOpen(size int, files map[string]string) *slow {
	s := newSlow(size, 1)
	var names []string
	for name := range files {
		if strings.HasPrefix(name, "s") {
			names = append(names, name)
		}
	}
	slices.Sort(names)
	for _, name := range names {
		if !s.goOn(name, []byte(files[name])) {
			break
		}
	}
	return s
}

// goOn takes what is right of a file's bytes, and tells whether all of it is.
func (s *slow) goOn(name string, b []byte) bool {
	for from := 1; from <= 10000; from++ {
		if name != fmt.Sprintf("s%05d", from) {
			continue
		}
		if len(s.begins) > 0 && from != s.next || !bytes.HasPrefix(b, slowHead(from)) {
			return false
		}
		return s.goOnAt(from, b[len(slowHead(from)):])
	}
	return false
}

func (s *slow) goOnAt(from int, rest []byte) bool {
	n := from
	for len(rest) > 0 {
		m, took, ok := slowChangeAt(rest)
		if !ok || n > 10000 {
			break
		}
		s.ms[n] = m
		n, rest = n+1, rest[took:]
	}
	if n == from && len(rest) > 0 {
		return false
	}
	s.begins, s.next = append(s.begins, from), n
	return len(rest) == 0
}
