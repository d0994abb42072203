// Package keys puts the keys of state into their order, for all that is kept by keys.
package keys

import (
	"maps"
	"slices"

	"remembrancer/api"
	"remembrancer/mut"
)

// Sorted answers the keys of m by mut.Less, in new memory.
func Sorted[V any](m map[api.Key]V) []api.Key {
	return slices.SortedFunc(maps.Keys(m), order)
}

// order is mut.Less in the form that package slices asks for.
func order(a, b api.Key) int {
	switch {
	case mut.Less(a, b):
		return -1
	case mut.Less(b, a):
		return 1
	}
	return 0
}
