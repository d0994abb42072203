package state

import (
	"slices"

	"remembrancer/api"
)

// What an entry is a piece of.
const (
	inValue = iota
	inList
	inDict
)

// entry is one piece of state: a value, one number of a list, or one field.
type entry struct {
	k    api.Key
	of   int
	f, v int64
}

// slow is state by other means than the package's: all pieces in one row as they came, gone through from the first on for each question.
type slow struct{ all []entry }

// slowMay is which changes may be, written out once more.
func slowMay(m api.Mut) bool {
	if !slowKeyMay(m.Key) {
		return false
	}
	switch m.Kind {
	case 1, 3:
		return m.F == 0
	case 2, 4:
		return m.F == 0 && m.V == 0
	case 5:
		return m.F >= 0 && m.F <= 7
	case 6:
		return m.F >= 0 && m.F <= 7 && m.V == 0
	}
	return false
}

func slowKeyMay(k api.Key) bool {
	return k.Group >= 0 && k.Group <= 3 && (k.Ns == 0 || k.Ns == 1) && k.Id >= 0 && k.Id <= 23
}

// before is the order of keys, written out once more.
func before(a, b api.Key) bool {
	if a.Group != b.Group {
		return a.Group < b.Group
	}
	if a.Ns != b.Ns {
		return a.Ns < b.Ns
	}
	return a.Id < b.Id
}

// do works on a row of its own, and lets it go if one of the changes can't be done.
func (s *slow) do(ms ...api.Mut) api.Errno {
	for _, m := range ms {
		if !slowMay(m) {
			return api.ErrForm
		}
	}
	try := &slow{slices.Clone(s.all)}
	for _, m := range ms {
		try.one(m)
		if len(try.cell(m.Key).List) == 101 {
			return api.ErrFull
		}
	}
	s.all = try.all
	return api.OK
}

func (s *slow) one(m api.Mut) {
	switch m.Kind {
	case 1:
		s.without(entry{k: m.Key, of: inValue}, false)
		s.all = append(s.all, entry{m.Key, inValue, 0, m.V})
	case 2:
		s.without(entry{k: m.Key, of: inValue}, false)
	case 3:
		s.all = append(s.all, entry{m.Key, inList, 0, m.V})
	case 4:
		s.without(entry{k: m.Key, of: inList}, false)
	case 5:
		s.without(entry{k: m.Key, of: inDict, f: m.F}, true)
		s.all = append(s.all, entry{m.Key, inDict, m.F, m.V})
	case 6:
		s.without(entry{k: m.Key, of: inDict, f: m.F}, true)
	}
}

// without takes out all pieces like x.
func (s *slow) without(x entry, field bool) {
	var left []entry
	for _, e := range s.all {
		if e.k != x.k || e.of != x.of || (field && e.f != x.f) {
			left = append(left, e)
		}
	}
	s.all = left
}

func (s *slow) cell(k api.Key) api.Cell {
	out := api.Cell{Key: k}
	for f := range int64(8) {
		for _, e := range s.all {
			if e.k == k && e.of == inDict && e.f == f {
				out.Dict = append(out.Dict, api.Field{F: f, V: e.v})
			}
		}
	}
	for _, e := range s.all {
		switch {
		case e.k == k && e.of == inValue:
			out.Has, out.Value = true, e.v
		case e.k == k && e.of == inList:
			out.List = append(out.List, e.v)
		}
	}
	return out
}

// cells are those of all keys, each put at its place among those ahead of it.
func (s *slow) cells() []api.Cell {
	var out []api.Cell
	for _, e := range s.all {
		i := 0
		for i < len(out) && before(out[i].Key, e.k) {
			i++
		}
		if i == len(out) || out[i].Key != e.k {
			out = slices.Insert(out, i, s.cell(e.k))
		}
	}
	return out
}

func slowCellMay(c api.Cell) bool {
	last := int64(-1)
	for _, field := range c.Dict {
		if field.F <= last || field.F > 7 {
			return false
		}
		last = field.F
	}
	if len(c.List)+len(c.Dict) == 0 && !c.Has {
		return false
	}
	return slowKeyMay(c.Key) && len(c.List) < 101 && (c.Has || c.Value == 0)
}

func (s *slow) load(cs ...api.Cell) api.Errno {
	for i, c := range cs {
		if !slowCellMay(c) {
			return api.ErrForm
		}
		for _, ahead := range cs[:i] {
			if !before(ahead.Key, c.Key) {
				return api.ErrForm
			}
		}
	}
	s.all = nil
	for _, c := range cs {
		if c.Has {
			s.all = append(s.all, entry{c.Key, inValue, 0, c.Value})
		}
		for _, n := range c.List {
			s.all = append(s.all, entry{c.Key, inList, 0, n})
		}
		for _, field := range c.Dict {
			s.all = append(s.all, entry{c.Key, inDict, field.F, field.V})
		}
	}
	return api.OK
}
