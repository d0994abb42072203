package keys

import (
	"math"
	"math/rand"
	"slices"
	"testing"

	"remembrancer/api"
)

// edges are keys with all that one of their numbers may be at its edges, in their order.
func edges() []api.Key {
	ns := []int{math.MinInt, -1, 0, 1, math.MaxInt}
	var out []api.Key
	for _, group := range ns {
		for _, space := range ns {
			for _, id := range ns {
				out = append(out, api.Key{Group: group, Ns: space, Id: id})
			}
		}
	}
	return out
}

func TestSorted(t *testing.T) {
	want := edges()
	r := rand.New(rand.NewSource(1))
	for range 20 {
		m := map[api.Key]struct{}{}
		for _, i := range r.Perm(len(want)) {
			m[want[i]] = struct{}{}
		}
		if got := Sorted(m); !slices.Equal(got, want) {
			t.Fatalf("P7.1: Sorted: %v", got)
		}
	}
}

func TestSortedOfFew(t *testing.T) {
	if got := Sorted[int](nil); len(got) != 0 {
		t.Errorf("P0.4: Sorted of nil: %v", got)
	}
	if got := Sorted(map[api.Key]int{}); len(got) != 0 {
		t.Errorf("P7.1: Sorted of no key: %v", got)
	}
	k := api.Key{Group: 3, Ns: 1, Id: 7}
	if got := Sorted(map[api.Key]int{k: 0}); !slices.Equal(got, []api.Key{k}) {
		t.Errorf("P7.1: Sorted of one key: %v", got)
	}
}

// TestOrder: a sort may ask for a key and itself, too.
func TestOrder(t *testing.T) {
	ks := edges()
	for i, a := range ks {
		for j, b := range ks {
			want := max(-1, min(1, i-j))
			if got := order(a, b); got != want {
				t.Errorf("P7.1: order of %v and %v: %d, not %d", a, b, got, want)
			}
		}
	}
}
