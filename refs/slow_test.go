package refs

import (
	"math"
	"slices"
	"strings"
	"testing"
)

// need is one thing that one owner needs.
type need struct {
	owner int
	name  string
}

// slow is a Refs by other means than the package's: one row of all needs, each once, that is gone through for each question.
type slow struct{ all []need }

func (s *slow) hold(owner int, names ...string) {
	for _, name := range names {
		if n := (need{owner, name}); !slices.Contains(s.all, n) {
			s.all = append(s.all, n)
		}
	}
}

func (s *slow) let(owner int) []string {
	had := s.of(owner)
	s.all = slices.DeleteFunc(s.all, func(n need) bool { return n.owner == owner })
	return slices.DeleteFunc(had, func(name string) bool { return s.count(name) > 0 })
}

func (s *slow) count(name string) int {
	count := 0
	for _, n := range s.all {
		if n.name == name {
			count++
		}
	}
	return count
}

func (s *slow) of(owner int) []string {
	var out []string
	for _, n := range s.all {
		if n.owner == owner {
			out = insert(out, n.name)
		}
	}
	return out
}

func (s *slow) names() []string {
	var out []string
	for _, n := range s.all {
		out = insert(out, n.name)
	}
	return out
}

// insert puts name where it belongs among rising ones, if it is not there.
func insert(rising []string, name string) []string {
	for i, other := range rising {
		switch c := strings.Compare(other, name); {
		case c == 0:
			return rising
		case c > 0:
			return slices.Insert(rising, i, name)
		}
	}
	return append(rising, name)
}

// made is a Refs in which just these needs are, told one by one.
func made(all ...need) *Refs {
	r := New()
	for _, n := range all {
		r.Hold(n.owner, n.name)
	}
	return r
}

// checkAll holds everything that r tells against a row of needs.
func checkAll(t *testing.T, at string, r *Refs, all ...need) {
	t.Helper()
	want := &slow{all}
	checkNames(t, at, r, want.names()...)
	for _, owner := range owners() {
		checkOf(t, at, r, owner, want.of(owner)...)
	}
	for _, n := range all {
		checkOf(t, at, r, n.owner, want.of(n.owner)...)
		checkCount(t, at, r, n.name, want.count(n.name))
	}
	for _, name := range anyNames() {
		checkCount(t, at, r, name, want.count(name))
	}
}

func checkNames(t *testing.T, at string, r *Refs, want ...string) {
	t.Helper()
	if got := r.Names(); !slices.Equal(got, want) {
		t.Errorf("P16.1, %s: Names %q, not %q", at, got, want)
	}
}

func checkOf(t *testing.T, at string, r *Refs, owner int, want ...string) {
	t.Helper()
	if got := r.Of(owner); !slices.Equal(got, want) {
		t.Errorf("P16.1, %s: Of %d: %q, not %q", at, owner, got, want)
	}
}

func checkCount(t *testing.T, at string, r *Refs, name string, want int) {
	t.Helper()
	if got := r.Count(name); got != want {
		t.Errorf("P16.1, %s: Count of %.50q: %d, not %d", at, name, got, want)
	}
}

func checkLet(t *testing.T, at string, r *Refs, owner int, want ...string) {
	t.Helper()
	if got := r.Let(owner); !slices.Equal(got, want) {
		t.Errorf("P16.1, %s: Let of %d: %q, not %q", at, owner, got, want)
	}
}

// owners are those at the edges, and some ordinary ones.
func owners() []int {
	return []int{0, 1, -1, 2, 3, -3, 99, math.MaxInt, math.MinInt, math.MaxInt - 1, math.MinInt + 1, 1 << 32, -(1 << 32)}
}

// anyNames are names of any bytes, rising.
func anyNames() []string {
	return []string{"", "\x00", "\x00\x00", " ", "A", "a", "a\x00", "a ", "aa", "ab", "b", "c00001", "c00002", "c1", "t0.0001", strings.Repeat("x", 40), strings.Repeat("x", 41), strings.Repeat("x", 70000), "é", "日本", "\xff", "\xff\xfe", "\xff\xff"}
}
