package value

import (
	"math"
	"math/rand"
	"slices"
	"testing"

	"remembrancer/api"
	"remembrancer/mut"
)

// cell is a key and its number, as the tests write them.
type cell struct {
	k api.Key
	n int64
}

// slow is values by other means than the package's: a list by rising keys, gone through from its first on for each question.
type slow struct{ cells []cell }

// place is where k is, or where it would be.
func (s *slow) place(k api.Key) (int, bool) {
	for i, c := range s.cells {
		if c.k == k {
			return i, true
		}
		if before(k, c.k) {
			return i, false
		}
	}
	return len(s.cells), false
}

// before is the chapter's order, written out once more.
func before(a, b api.Key) bool {
	if a.Group != b.Group {
		return a.Group < b.Group
	}
	if a.Ns != b.Ns {
		return a.Ns < b.Ns
	}
	return a.Id < b.Id
}

func (s *slow) set(k api.Key, n int64) {
	i, there := s.place(k)
	if there {
		s.cells[i].n = n
		return
	}
	s.cells = slices.Insert(s.cells, i, cell{k, n})
}

func (s *slow) unset(k api.Key) bool {
	i, there := s.place(k)
	if there {
		s.cells = slices.Delete(s.cells, i, i+1)
	}
	return there
}

// made is values with these cells, set in this order.
func made(cells ...cell) *Values {
	v := New()
	for _, c := range cells {
		v.Set(c.k, c.n)
	}
	return v
}

// checkAll holds v against all of its cells, by rising keys.
func checkAll(t *testing.T, at string, v *Values, want ...cell) {
	t.Helper()
	var ks []api.Key
	for _, c := range want {
		ks = append(ks, c.k)
		checkValue(t, at, v, c.k, c.n, true)
	}
	if got := v.ValueKeys(); !slices.Equal(got, ks) {
		t.Errorf("P7.1, %s: ValueKeys %v, not %v", at, got, ks)
	}
}

func checkValue(t *testing.T, at string, v *Values, k api.Key, want int64, there bool) {
	t.Helper()
	if n, ok := v.Value(k); n != want || ok != there {
		t.Errorf("P7.1, %s: Value of %v: %d, %t, not %d, %t", at, k, n, ok, want, there)
	}
}

func checkUnset(t *testing.T, at string, v *Values, k api.Key, want bool) {
	t.Helper()
	if got := v.Unset(k); got != want {
		t.Errorf("P7.1, %s: Unset of %v: %t, not %t", at, k, got, want)
	}
}

// key is a key that KeyOf gives.
func key(t *testing.T, source, k, ns int) api.Key {
	t.Helper()
	out, ok := mut.KeyOf(source, k, ns)
	if !ok {
		t.Fatalf("no key of %d, %d, %d", source, k, ns)
	}
	return out
}

// numbers are those at the edges.
func numbers() []int64 {
	return []int64{0, 1, -1, math.MaxInt64, math.MinInt64, 1 << 32, -(1 << 32)}
}

// farKeys are keys with numbers that no change may have, too, by rising keys.
func farKeys() []api.Key {
	ns := []int{math.MinInt, -1, 0, 3, math.MaxInt}
	var out []api.Key
	for _, group := range ns {
		for _, space := range ns {
			for _, id := range ns {
				out = append(out, api.Key{Group: group, Ns: space, Id: id})
			}
		}
	}
	return out
}

func TestNewHasNone(t *testing.T) {
	v := New()
	if v == nil {
		t.Fatal("P7.1: New answered nil")
	}
	checkAll(t, "new", v)
	for _, k := range farKeys() {
		checkValue(t, "new", v, k, 0, false)
		checkUnset(t, "new", v, k, false)
	}
	checkAll(t, "new, behind Unset", v)
}

func TestNewIsNewEachTime(t *testing.T) {
	a, b := New(), New()
	a.Set(api.Key{}, 1)
	checkAll(t, "the other", b)
	b.Set(api.Key{}, 2)
	checkAll(t, "the one", a, cell{api.Key{}, 1})
}

func TestSet(t *testing.T) {
	k, other := key(t, 1, 3, 0), key(t, 1, 3, 1)
	for _, n := range numbers() {
		v := New()
		v.Set(k, n)
		checkAll(t, "of a key that has none", v, cell{k, n})
		checkValue(t, "its other namespace", v, other, 0, false)
		for _, again := range numbers() {
			v.Set(k, again)
			checkAll(t, "of a key that has one", v, cell{k, again})
		}
	}
}

func TestUnset(t *testing.T) {
	a, b := key(t, 0, 0, 0), key(t, 2, 7, 1)
	for _, n := range numbers() {
		v := made(cell{a, n}, cell{b, 5})
		checkUnset(t, "one that has one", v, a, true)
		checkAll(t, "unset", v, cell{b, 5})
		checkValue(t, "unset", v, a, 0, false)
		checkUnset(t, "twice in a row", v, a, false)
		checkAll(t, "unset twice", v, cell{b, 5})
		v.Set(a, 0)
		checkAll(t, "set again", v, cell{a, 0}, cell{b, 5})
		checkUnset(t, "set again", v, a, true)
		checkUnset(t, "the last one", v, b, true)
		checkAll(t, "all unset", v)
		checkUnset(t, "all unset", v, b, false)
	}
}

// TestEachNumberOfAKeyCounts: keys that differ in one number alone are not the same.
func TestEachNumberOfAKeyCounts(t *testing.T) {
	k := api.Key{Group: 1, Ns: 1, Id: 5}
	v := made(cell{k, 9})
	for _, other := range []api.Key{{Group: 0, Ns: 1, Id: 5}, {Group: 1, Ns: 0, Id: 5}, {Group: 1, Ns: 1, Id: 4}, {}} {
		checkValue(t, "another key", v, other, 0, false)
		checkUnset(t, "another key", v, other, false)
	}
	checkAll(t, "another key", v, cell{k, 9})
}

// by is a key of any numbers.
func by(group, ns, id int) api.Key { return api.Key{Group: group, Ns: ns, Id: id} }

// TestValueKeys: the expected lists are written out, so that not even the order's own test is trusted.
func TestValueKeys(t *testing.T) {
	const least, most = math.MinInt, math.MaxInt
	type list = []api.Key
	for _, x := range []struct {
		at        string
		set, want list
	}{
		{"of no key", nil, nil},
		{"of one", list{by(2, 1, 6)}, list{by(2, 1, 6)}},
		{"each once", list{by(0, 0, 4), by(0, 0, 0), by(0, 0, 4), by(0, 0, 4)}, list{by(0, 0, 0), by(0, 0, 4)}},
		{"by Group first", list{by(1, 0, 1), by(0, 1, 20), by(2, 0, 2)}, list{by(0, 1, 20), by(1, 0, 1), by(2, 0, 2)}},
		{"then by Ns", list{by(0, 1, 0), by(0, 0, 20), by(0, 1, 4)}, list{by(0, 0, 20), by(0, 1, 0), by(0, 1, 4)}},
		{"then by Id", list{by(0, 0, 20), by(0, 0, 8), by(0, 0, 12)}, list{by(0, 0, 8), by(0, 0, 12), by(0, 0, 20)}},
		{
			"of any numbers",
			list{by(0, 0, 0), by(most, 0, 0), by(least, 9, 9), by(-1, most, 0), by(-1, least, most), by(-1, least, least)},
			list{by(least, 9, 9), by(-1, least, least), by(-1, least, most), by(-1, most, 0), by(0, 0, 0), by(most, 0, 0)},
		},
	} {
		v := New()
		for _, k := range x.set {
			v.Set(k, 0)
		}
		if got := v.ValueKeys(); !slices.Equal(got, x.want) {
			t.Errorf("P7.1, %s: ValueKeys %v, not %v", x.at, got, x.want)
		}
	}
}

func TestManyKeysInAnyOrder(t *testing.T) {
	r := rand.New(rand.NewSource(7))
	want := farKeys()
	for range 20 {
		v := New()
		for _, i := range r.Perm(len(want)) {
			v.Set(want[i], int64(i))
		}
		got := v.ValueKeys()
		if !slices.Equal(got, want) {
			t.Fatalf("P7.1: ValueKeys %v", got)
		}
		if !slices.IsSortedFunc(got, func(a, b api.Key) int {
			if mut.Less(a, b) {
				return -1
			}
			return 1
		}) {
			t.Fatalf("P7.1: not by mut.Less: %v", got)
		}
		for i, k := range want {
			checkValue(t, "many", v, k, int64(i), true)
		}
	}
}

func TestWhatIsToldIsTheCallersOwn(t *testing.T) {
	a, b := key(t, 0, 1, 0), key(t, 0, 2, 0)
	v := made(cell{b, 2}, cell{a, 1})
	first, second := v.ValueKeys(), v.ValueKeys()
	whole := first[:cap(first)]
	for i := range whole {
		whole[i] = api.Key{Group: 9, Ns: 9, Id: 9}
	}
	if !slices.Equal(second, []api.Key{a, b}) {
		t.Errorf("P0.3: another answer changed: %v", second)
	}
	checkAll(t, "an answer written over", v, cell{a, 1}, cell{b, 2})
	_ = append(second[:0], api.Key{Id: 77})
	checkAll(t, "an answer appended to", v, cell{a, 1}, cell{b, 2})
	held := v.ValueKeys()
	v.Unset(a)
	v.Set(api.Key{Group: -1}, 3)
	if !slices.Equal(held, []api.Key{a, b}) {
		t.Errorf("P0.3: an answer changed behind its call: %v", held)
	}
}

func TestNilValues(t *testing.T) {
	var v *Values
	for _, k := range farKeys() {
		for _, n := range numbers() {
			v.Set(k, n)
		}
		checkValue(t, "nil", v, k, 0, false)
		checkUnset(t, "nil", v, k, false)
	}
	if got := v.ValueKeys(); got != nil {
		t.Errorf("P7.1: ValueKeys of nil: %v", got)
	}
}

func TestZeroValues(t *testing.T) {
	var v Values
	k := key(t, 2, 0, 1)
	checkAll(t, "zero", &v)
	checkValue(t, "zero", &v, k, 0, false)
	checkUnset(t, "zero", &v, k, false)
	v.Set(k, -8)
	checkAll(t, "zero, set", &v, cell{k, -8})
}

// TestManySteps holds v against the slow one, and against a twin that is told the same and asked at other times.
func TestManySteps(t *testing.T) {
	for seed := range int64(20) {
		r := rand.New(rand.NewSource(seed))
		v, twin, want := New(), New(), &slow{}
		for range 400 {
			step(t, r, v, twin, want)
		}
		checkAll(t, "the twin", twin, want.cells...)
	}
}

func step(t *testing.T, r *rand.Rand, v, twin *Values, want *slow) {
	t.Helper()
	k := api.Key{Group: r.Intn(4) - 1, Ns: r.Intn(3) - 1, Id: r.Intn(4) - 2}
	if r.Intn(2) == 0 {
		n := numbers()[r.Intn(len(numbers()))]
		v.Set(k, n)
		twin.Set(k, n)
		want.set(k, n)
	} else {
		there := want.unset(k)
		checkUnset(t, "a step", v, k, there)
		checkUnset(t, "a twin's step", twin, k, there)
	}
	checkAll(t, "a step", v, want.cells...)
}

func TestVeryManyKeys(t *testing.T) {
	const many = 100000
	v := New()
	for i := range many {
		v.Set(api.Key{Id: (i * 7919) % many}, int64(i))
	}
	for i, k := range v.ValueKeys() {
		if k.Id != i {
			t.Fatalf("P7.1: key %d is %v", i, k)
		}
	}
	for i := range many {
		checkUnset(t, "many", v, api.Key{Id: i}, true)
	}
	checkAll(t, "many unset", v)
}
