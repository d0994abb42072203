package state

import (
	"remembrancer/api"
	"remembrancer/mut"
)

func allMay(ms []api.Mut) bool {
	for _, m := range ms {
		if !mut.May(m) {
			return false
		}
	}
	return true
}

// hasRoom tells whether no list would be too long at any place among ms.
func (s *State) hasRoom(ms []api.Mut) bool {
	// How long the lists are behind the changes gone through so far, of those that they are of.
	long := map[api.Key]int{}
	for _, m := range ms {
		switch m.Kind {
		case api.MPush:
			n, known := long[m.Key]
			if !known {
				n = len(s.List(m.Key))
			}
			if n >= api.MaxList {
				return false
			}
			long[m.Key] = n + 1
		case api.MClear:
			long[m.Key] = 0
		}
	}
	return true
}

// change does one that may be, and that there is room for.
func (s *State) change(m api.Mut) {
	switch m.Kind {
	case api.MSet:
		s.Set(m.Key, m.V)
	case api.MDel:
		s.Unset(m.Key)
	case api.MPush:
		s.Push(m.Key, m.V)
	case api.MClear:
		s.Clear(m.Key)
	case api.MPut:
		s.PutField(m.Key, m.F, m.V)
	case api.MCut:
		s.CutField(m.Key, m.F)
	}
}
