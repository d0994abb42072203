package state

import (
	"slices"

	"remembrancer/api"
	"remembrancer/keys"
	"remembrancer/mut"
)

// allKeys are those that have something, by mut.Less, each once.
func (s *State) allKeys() []api.Key {
	there := map[api.Key]struct{}{}
	for _, ks := range [][]api.Key{s.ValueKeys(), s.ListKeys(), s.DictKeys()} {
		for _, k := range ks {
			there[k] = struct{}{}
		}
	}
	return keys.Sorted(there)
}

// cell is what lies at k, in new memory.
func (s *State) cell(k api.Key) api.Cell {
	n, has := s.Value(k)
	return api.Cell{Key: k, Has: has, Value: n, List: s.List(k), Dict: s.Dict(k)}
}

// empty takes out what is there and leaves the three themselves: whoever has one of them goes on seeing the state.
func (s *State) empty() {
	for _, c := range s.Cells() {
		s.Unset(c.Key)
		s.Clear(c.Key)
		for _, field := range c.Dict {
			s.CutField(c.Key, field.F)
		}
	}
}

// fill puts in cells that are right but for their keys, which may be any, at keys that have nothing.
func (s *State) fill(cs []api.Cell) {
	for _, c := range cs {
		if c.Has {
			s.Set(c.Key, c.Value)
		}
		s.Push(c.Key, c.List...)
		for _, field := range c.Dict {
			s.PutField(c.Key, field.F, field.V)
		}
	}
}

func cellsMay(cs []api.Cell) bool {
	for i, c := range cs {
		if !cellMay(c) {
			return false
		}
		if i > 0 && !mut.Less(cs[i-1].Key, c.Key) {
			return false
		}
	}
	return true
}

func cellMay(c api.Cell) bool {
	return keyMay(c.Key) && hasSomething(c) && (c.Has || c.Value == 0) &&
		len(c.List) <= api.MaxList && fieldsMay(c.Dict)
}

// keyMay asks mut of a change that has nothing but its key.
func keyMay(k api.Key) bool {
	return mut.May(api.Mut{Kind: api.MDel, Key: k})
}

func hasSomething(c api.Cell) bool {
	return c.Has || len(c.List) > 0 || len(c.Dict) > 0
}

func fieldsMay(fields []api.Field) bool {
	for i, field := range fields {
		if field.F < 0 || field.F >= api.Fields {
			return false
		}
		if i > 0 && fields[i-1].F >= field.F {
			return false
		}
	}
	return true
}

func sameCell(a, b api.Cell) bool {
	return a.Key == b.Key && a.Has == b.Has && a.Value == b.Value &&
		slices.Equal(a.List, b.List) && slices.Equal(a.Dict, b.Dict)
}
