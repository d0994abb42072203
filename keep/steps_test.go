package keep

import (
	"fmt"
	"maps"
	"math/rand"
	"slices"
	"strings"
	"testing"

	"remembrancer/api"
	"remembrancer/mani"
	"remembrancer/store"
)

// anyName is often one that is there already.
func anyName(r *rand.Rand) string {
	switch r.Intn(12) {
	case 0:
		return lookAlike()[r.Intn(len(lookAlike()))]
	case 1, 2:
		return fmt.Sprintf("c%05d", r.Intn(40))
	}
	return fmt.Sprint("o", r.Intn(15))
}

func anyNames(r *rand.Rand, most int) []string {
	names := make([]string, r.Intn(most+1))
	for i := range names {
		names[i] = anyName(r)
	}
	return names
}

// anyManifest has one to three parts, with bases and without.
func anyManifest(r *rand.Rand, n int) api.Manifest {
	m := api.Manifest{N: n, Txn: n, Offsets: []int{r.Intn(61)}}
	for range 1 + r.Intn(3) {
		p := api.Part{Upto: 20, Segs: anyNames(r, 3)}
		if r.Intn(2) == 0 {
			p.Base, p.At = anyName(r), 1+r.Intn(19)
		}
		m.Parts = append(m.Parts, p)
	}
	return m
}

// step does one thing to both, and to the twin. Of others' Drops there are none unless hands are many.
func step(r *rand.Rand, x *both, twin *Keeper, hands bool) {
	x.t.Helper()
	switch r.Intn(9) {
	case 0:
		last := 0
		if m, ok := x.w.newest(); ok {
			last = m.N
		}
		addTo(x, twin, anyManifest(r, last-1+r.Intn(4)))
	case 1:
		putTo(x, twin, anyName(r), fmt.Sprint(r.Intn(3)))
	case 2:
		names := anyNames(r, 4)
		x.flight(names...)
		twin.Flight(names...)
	case 3:
		x.land()
		twin.Land()
	case 4:
		x.trimmed()
		twin.Trim()
	case 5:
		if hands {
			name := anyName(r)
			x.gone(name)
			twin.from.Drop(name)
		}
	default:
		x.drop()
		twin.Drop()
	}
}

func putTo(x *both, twin *Keeper, name, b string) {
	x.t.Helper()
	x.put(name, b)
	twin.from.Put(name, []byte(b), false)
}

// addTo puts m and some of what it needs ahead of adding it.
func addTo(x *both, twin *Keeper, m api.Manifest) {
	x.t.Helper()
	if b, e := mani.Put(m); e == api.OK {
		putTo(x, twin, mani.Name(m.N), string(b))
	}
	for i, name := range mani.Needs(m) {
		if i%4 < 3 {
			putTo(x, twin, name, "of "+name)
		}
	}
	x.add(m)
	twin.Add(m)
}

// twinOf is a Keeper of a store of the same objects.
func twinOf(objects map[string]string, most int) *Keeper {
	s := store.New(0)
	for name, b := range objects {
		s.Put(name, []byte(b), false)
	}
	return New(s, most)
}

// TestManySteps holds a Keeper against the slow one, and against a twin that is told the same and asked nothing on the way.
func TestManySteps(t *testing.T) {
	for seed := range int64(60) {
		r := rand.New(rand.NewSource(seed))
		most := 1 + r.Intn(3)
		x := begin(t, "many steps", most, nil)
		twin := twinOf(nil, most)
		for range 120 {
			step(r, x, twin, true)
			if r.Intn(40) == 0 {
				most = 1 + r.Intn(3)
				objects := maps.Clone(x.w.objects)
				x = &both{t, "many steps, anew", x.s, New(x.s, most), slowNew(objects, most)}
				x.check("New")
				twin = New(twin.from, most)
			}
		}
		checkTwin(t, x, twin)
		if t.Failed() {
			t.Fatalf("seed %d", seed)
		}
	}
}

func checkTwin(t *testing.T, x *both, twin *Keeper) {
	t.Helper()
	m, ok := x.k.Newest()
	other, otherOK := twin.Newest()
	if !slices.Equal(x.k.Left(), twin.Left()) || !slices.Equal(x.k.Kept(), twin.Kept()) || !mani.Eq(m, other) || ok != otherOK {
		t.Errorf("P0.5: the twin: %q %d, not %q %d", twin.Left(), twin.Kept(), x.k.Left(), x.k.Kept())
	}
	if !slices.Equal(x.s.List(""), twin.from.List("")) {
		t.Errorf("P0.5: the twin's store: %q, not %q", twin.from.List(""), x.s.List(""))
	}
}

// TestNothingThatIsNeededGoes: G2, behind any order of Put, Add, Flight, Land, Trim, Drop.
func TestNothingThatIsNeededGoes(t *testing.T) {
	for seed := range int64(60) {
		r := rand.New(rand.NewSource(100 + seed))
		most := 1 + r.Intn(3)
		x, twin := begin(t, "what is needed", most, nil), twinOf(nil, most)
		had := map[int]map[string]string{}
		for range 120 {
			before := len(x.w.known)
			step(r, x, twin, false)
			if len(x.w.known) > before {
				m := x.w.known[before]
				had[m.N] = whatIsThere(x.s, m)
			}
			for _, n := range x.k.Kept() {
				checkThere(t, x.s, n, had[n])
			}
		}
		if t.Failed() {
			t.Fatalf("seed %d", 100+seed)
		}
	}
}

// whatIsThere is all that m needs, and itself, as far as the store has it.
func whatIsThere(s *store.Store, m api.Manifest) map[string]string {
	out := map[string]string{}
	for _, name := range append(mani.Needs(m), mani.Name(m.N)) {
		if b, e := s.Get(name); e == api.OK {
			out[name] = string(b)
		}
	}
	return out
}

func checkThere(t *testing.T, s *store.Store, n int, want map[string]string) {
	t.Helper()
	for name, b := range want {
		if got, e := s.Get(name); e != api.OK || string(got) != b {
			t.Errorf("G2: %q, which %d needs, is %q, %d, not %q", name, n, got, e, b)
		}
	}
}

// TestGarbageIsBounded: G3, behind a Trim and Drops until there is nothing left.
func TestGarbageIsBounded(t *testing.T) {
	for seed := range int64(40) {
		r := rand.New(rand.NewSource(200 + seed))
		most := 1 + r.Intn(3)
		x, twin := begin(t, "garbage", most, nil), twinOf(nil, most)
		for range 120 {
			step(r, x, twin, true)
			if r.Intn(10) == 0 {
				clean(t, x, twin)
			}
		}
		clean(t, x, twin)
		if t.Failed() {
			t.Fatalf("seed %d", 200+seed)
		}
	}
}

func clean(t *testing.T, x *both, twin *Keeper) {
	t.Helper()
	want := []string{}
	for _, name := range x.s.List("") {
		if x.w.needed(name) {
			want = append(want, name)
		}
	}
	queued := x.s.List("")
	x.trimmed()
	twin.Trim()
	for range len(queued) + 1 {
		x.drop()
		twin.Drop()
	}
	if got := x.s.List(""); !slices.Equal(got, want) || len(x.k.Left()) != 0 {
		t.Errorf("G3: the store has %q, not %q", got, want)
	}
}

// TestTheOrderOfPuts: whatever order objects came in, what is told is the same.
func TestTheOrderOfPuts(t *testing.T) {
	objects := withManifests(one(1, "a", "b"), one(2, "b", "c"), one(3, "d"), one(20, "e"))
	for _, name := range lookAlike() {
		objects[name] = "x"
	}
	names := slices.Sorted(maps.Keys(objects))
	want := twinOf(objects, 2)
	want.Trim()
	r := rand.New(rand.NewSource(7))
	for range 20 {
		s := store.New(0)
		for _, i := range r.Perm(len(names)) {
			s.Put(names[i], []byte(objects[names[i]]), false)
		}
		k := New(s, 2)
		k.Trim()
		if !slices.Equal(k.Left(), want.Left()) || !slices.Equal(k.Kept(), want.Kept()) {
			t.Errorf("P0.5: %q, not %q", strings.Join(k.Left(), " "), strings.Join(want.Left(), " "))
		}
	}
}
