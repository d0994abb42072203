package keep

import (
	"slices"

	"remembrancer/api"
	"remembrancer/mani"
	"remembrancer/store"
)

const (
	// letter is what a manifest's name begins with.
	letter = "c"
	// digits is how many follow it.
	digits = 5
)

// newest are at most so many of a store's manifests, by rising N. It reads them from the last name on, which is the greatest N, so that no more of them are read than are kept.
func newest(s *store.Store, most int) []api.Manifest {
	var found []api.Manifest
	for _, name := range slices.Backward(s.List(letter)) {
		if len(found) == most {
			break
		}
		if m, ok := known(s, name); ok {
			found = append(found, m)
		}
	}
	slices.Reverse(found)
	return found
}

// known is the manifest of that name, if there is one. Holding its own name against this one asks both whether N is right and whether the name is a manifest's at all.
func known(s *store.Store, name string) (api.Manifest, bool) {
	b, e := s.Get(name)
	if e != api.OK {
		return api.Manifest{}, false
	}
	m, e := mani.Get(b)
	if e != api.OK || mani.Name(m.N) != name {
		return api.Manifest{}, false
	}
	return m, true
}

// isManifest goes by the name alone: what lies there may be no manifest that mani.Get reads.
func isManifest(name string) bool {
	if len(name) != len(letter)+digits || name[:len(letter)] != letter {
		return false
	}
	for _, d := range []byte(name[len(letter):]) {
		if d < '0' || d > '9' {
			return false
		}
	}
	return true
}
