package keep

import (
	"fmt"
	"maps"
	"reflect"
	"regexp"
	"slices"
	"strings"
	"testing"

	"remembrancer/api"
	"remembrancer/mani"
	"remembrancer/store"
)

// slow is a Keeper by other means than the package's, with a store of its own: it keeps every manifest that it was told of and every
// name that is under way, and goes through all of them for each question.
type slow struct {
	objects map[string]string
	most    int
	known   []api.Manifest
	flights []string
	queue   []string
}

// slowNew knows what is in these objects, which are its own from now on.
func slowNew(objects map[string]string, most int) *slow {
	w := &slow{objects: objects, most: most}
	for name, b := range objects {
		if m, e := mani.Get([]byte(b)); e == api.OK && fmt.Sprintf("c%05d", m.N) == name {
			w.known = append(w.known, m)
		}
	}
	slices.SortFunc(w.known, func(a, b api.Manifest) int { return a.N - b.N })
	return w
}

func (w *slow) put(name, b string) {
	if _, there := w.objects[name]; !there {
		w.objects[name] = b
	}
}

func (w *slow) add(m api.Manifest) api.Errno {
	if !mani.May(m) {
		return api.ErrForm
	}
	for _, other := range w.known {
		if other.N >= m.N {
			return api.ErrRange
		}
	}
	w.known = append(w.known, deep(m))
	return api.OK
}

func (w *slow) flight(names ...string) { w.flights = append(w.flights, names...) }

func (w *slow) land() { w.flights = nil }

// kept are the last of all: they were added by rising N.
func (w *slow) kept() []api.Manifest {
	return w.known[max(len(w.known)-w.most, 0):]
}

func (w *slow) needed(name string) bool {
	if slices.Contains(w.flights, name) {
		return true
	}
	for _, m := range w.kept() {
		if fmt.Sprintf("c%05d", m.N) == name {
			return true
		}
		for _, p := range m.Parts {
			if p.Base == name || slices.Contains(p.Segs, name) {
				return true
			}
		}
	}
	return false
}

var manifestName = regexp.MustCompile(`\Ac[0-9]{5}\z`)

func (w *slow) trim() int {
	w.queue = nil
	names := slices.Sorted(maps.Keys(w.objects))
	for _, manifests := range []bool{true, false} {
		for _, name := range names {
			if !w.needed(name) && manifestName.MatchString(name) == manifests {
				w.queue = append(w.queue, name)
			}
		}
	}
	return len(w.queue)
}

func (w *slow) drop() (string, bool) {
	if len(w.queue) == 0 {
		return "", false
	}
	name := w.queue[0]
	w.queue = slices.Clone(w.queue[1:])
	if _, there := w.objects[name]; !there || w.needed(name) {
		return w.drop()
	}
	delete(w.objects, name)
	return name, true
}

func (w *slow) ns() []int {
	var out []int
	for _, m := range w.kept() {
		out = append(out, m.N)
	}
	return out
}

func (w *slow) newest() (api.Manifest, bool) {
	if len(w.known) == 0 {
		return api.Manifest{}, false
	}
	return w.known[len(w.known)-1], true
}

func deep(m api.Manifest) api.Manifest {
	out := api.Manifest{N: m.N, Txn: m.Txn, Offsets: append([]int{}, m.Offsets...)}
	for _, p := range m.Parts {
		out.Parts = append(out.Parts, api.Part{Base: p.Base, At: p.At, Segs: append([]string{}, p.Segs...), Upto: p.Upto})
	}
	return out
}

// both is a Keeper with its store, and the slow one: each thing is done to both, and what they tell is held against each other.
type both struct {
	t  *testing.T
	at string
	s  *store.Store
	k  *Keeper
	w  *slow
}

// begin is New of a store that has these objects.
func begin(t *testing.T, at string, most int, objects map[string]string) *both {
	t.Helper()
	s := store.New(0)
	for name, b := range objects {
		if e := s.Put(name, []byte(b), false); e != api.OK {
			t.Fatalf("%s: Put of %q: %d", at, name, e)
		}
	}
	x := &both{t, at, s, New(s, most), slowNew(maps.Clone(objects), most)}
	if x.w.objects == nil {
		x.w.objects = map[string]string{}
	}
	if x.k == nil {
		t.Fatalf("P17.1, %s: New with most %d answered nil", at, most)
	}
	x.check("New")
	return x
}

// put is of an object: of one of other bytes that is there already neither changes anything.
func (x *both) put(name, b string) {
	x.t.Helper()
	x.s.Put(name, []byte(b), false)
	x.w.put(name, b)
	x.check("Put of " + name)
}

// gone is a Drop by another hand than the Keeper's.
func (x *both) gone(name string) {
	x.t.Helper()
	x.s.Drop(name)
	delete(x.w.objects, name)
	x.check("store's Drop of " + name)
}

// putAdd puts m and what it needs, and adds it.
func (x *both) putAdd(m api.Manifest) api.Errno {
	x.t.Helper()
	if b, e := mani.Put(m); e == api.OK {
		x.put(mani.Name(m.N), string(b))
	}
	for _, name := range mani.Needs(m) {
		x.put(name, "of "+name)
	}
	return x.add(m)
}

func (x *both) add(m api.Manifest) api.Errno {
	x.t.Helper()
	got, want := x.k.Add(m), x.w.add(m)
	if got != want {
		x.t.Errorf("P17.1, %s: Add of %d: %d, not %d", x.at, m.N, got, want)
	}
	x.check("Add")
	return got
}

// adds are Adds that are right.
func (x *both) adds(ms ...api.Manifest) {
	x.t.Helper()
	for _, m := range ms {
		if e := x.putAdd(m); e != api.OK {
			x.t.Errorf("P17.1, %s: Add of %d: %d, not OK", x.at, m.N, e)
		}
	}
}

func (x *both) flight(names ...string) {
	x.t.Helper()
	x.k.Flight(names...)
	x.w.flight(names...)
	x.check("Flight")
}

func (x *both) land() {
	x.t.Helper()
	x.k.Land()
	x.w.land()
	x.check("Land")
}

// trim holds the queue against what is wanted, which is written out.
func (x *both) trim(want ...string) {
	x.t.Helper()
	x.trimmed()
	if got := x.k.Left(); !slices.Equal(got, want) {
		x.t.Errorf("P17.1, %s: Trim's queue is %q, not %q", x.at, got, want)
	}
}

func (x *both) trimmed() {
	x.t.Helper()
	if got, want := x.k.Trim(), x.w.trim(); got != want {
		x.t.Errorf("P17.1, %s: Trim: %d, not %d", x.at, got, want)
	}
	x.check("Trim")
}

// drop tells what the Keeper's Drop told.
func (x *both) drop() (string, bool) {
	x.t.Helper()
	got, ok := x.k.Drop()
	if want, wantOK := x.w.drop(); got != want || ok != wantOK {
		x.t.Errorf("P17.1, %s: Drop: %q %v, not %q %v", x.at, got, ok, want, wantOK)
	}
	x.check("Drop")
	return got, ok
}

// drops are Drops that answer these names, one behind the other.
func (x *both) drops(want ...string) {
	x.t.Helper()
	for _, name := range want {
		if got, ok := x.drop(); got != name || !ok {
			x.t.Errorf("P17.1, %s: Drop: %q %v, not %q", x.at, got, ok, name)
		}
	}
}

// dropsAll are these, and then none, however often it is asked.
func (x *both) dropsAll(want ...string) {
	x.t.Helper()
	x.drops(want...)
	for range 2 {
		if got, ok := x.drop(); got != "" || ok {
			x.t.Errorf("P17.1, %s: Drop at the end: %q %v", x.at, got, ok)
		}
	}
}

// check holds all that can be asked, and each object of the store, against the slow one's.
func (x *both) check(behind string) {
	x.t.Helper()
	if got, want := x.k.Left(), x.w.queue; !slices.Equal(got, want) {
		x.t.Errorf("P17.1, %s, behind %s: Left %q, not %q", x.at, behind, got, want)
	}
	if got, want := x.k.Kept(), x.w.ns(); !slices.Equal(got, want) {
		x.t.Errorf("P17.1, %s, behind %s: Kept %d, not %d", x.at, behind, got, want)
	}
	got, ok := x.k.Newest()
	want, wantOK := x.w.newest()
	if ok != wantOK || !mani.Eq(got, want) || !ok && !reflect.ValueOf(got).IsZero() {
		x.t.Errorf("P17.1, %s, behind %s: Newest %.200s %v, not %.200s %v", x.at, behind, fmt.Sprint(got), ok, fmt.Sprint(want), wantOK)
	}
	x.checkStore(behind)
}

func (x *both) checkStore(behind string) {
	x.t.Helper()
	if got, want := x.s.List(""), slices.Sorted(maps.Keys(x.w.objects)); !slices.Equal(got, want) {
		x.t.Errorf("G2, G3, %s, behind %s: the store has %.300q, not %.300q", x.at, behind, got, want)
	}
	for name, want := range x.w.objects {
		if got, e := x.s.Get(name); e != api.OK || string(got) != want {
			x.t.Errorf("G2, %s, behind %s: %q is %.40q, %d, not %.40q", x.at, behind, name, got, e, want)
		}
	}
}

// one is a manifest of one part that needs these, as segments.
func one(n int, segs ...string) api.Manifest {
	return api.Manifest{N: n, Txn: n, Offsets: []int{n % 61}, Parts: []api.Part{{Upto: 9, Segs: segs}}}
}

// three is a manifest of three parts with bases: of each list of names the first one.
func three(n int, parts ...[]string) api.Manifest {
	m := api.Manifest{N: n, Txn: n, Offsets: []int{1, 2, 3}}
	for i, names := range parts {
		m.Parts = append(m.Parts, api.Part{Base: names[0], At: i + 1, Segs: names[1:], Upto: i + 9})
	}
	return m
}

// written is m as an object.
func written(m api.Manifest) string {
	b, e := mani.Put(m)
	if e != api.OK {
		panic("a manifest of the tests may not be")
	}
	return string(b)
}

// withManifests are objects: these manifests, and all that they need.
func withManifests(ms ...api.Manifest) map[string]string {
	objects := map[string]string{}
	for _, m := range ms {
		objects[mani.Name(m.N)] = written(m)
		for _, name := range mani.Needs(m) {
			objects[name] = "of " + name
		}
	}
	return objects
}

// lookAlike are names that are nearly a manifest's.
func lookAlike() []string {
	return []string{"C00003", "\x00c00003", " c00003", "b99999", "c", "c\x0000003", "c 0003", "c+0003", "c-0003", "c0000", "c0000/", "c00003 ", "c00003\x00", "c000030", "c00003c", "c0000:", "c0000a", "c0003", "c3", "cc00003", "c٣٣", "d00003", strings.Repeat("c", 6), "c" + strings.Repeat("0", 39)}
}
