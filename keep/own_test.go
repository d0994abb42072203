package keep

import (
	"runtime"
	"slices"
	"strconv"
	"strings"
	"testing"

	"remembrancer/api"
	"remembrancer/mani"
	"remembrancer/store"
)

// roomy is three of a manifest's parts, each list of it with spare room.
func roomy(n int) api.Manifest {
	m := three(n, []string{"b1", "x1", "x2"}, []string{"b2", "x3"}, []string{"b3", "x4", "x5"})
	m.Offsets = append(m.Offsets, 7, 8)[:3]
	m.Parts = append(m.Parts, api.Part{Base: "spare"})[:3]
	for i := range m.Parts {
		m.Parts[i].Segs = append(m.Parts[i].Segs, "spare", "room")[:len(m.Parts[i].Segs)]
	}
	return m
}

// everything is a copy of m with all its spare room.
func everything(m api.Manifest) api.Manifest {
	m.Offsets = slices.Clone(m.Offsets[:cap(m.Offsets)])
	m.Parts = slices.Clone(m.Parts[:cap(m.Parts)])
	for i := range m.Parts {
		segs := m.Parts[i].Segs
		m.Parts[i].Segs = slices.Clone(segs[:cap(segs)])
	}
	return m
}

// scribble writes into all lists of m, spare room too.
func scribble(m api.Manifest) {
	for i := range m.Offsets[:cap(m.Offsets)] {
		m.Offsets[:cap(m.Offsets)][i] = 55
	}
	for i := range m.Parts[:cap(m.Parts)] {
		p := &m.Parts[:cap(m.Parts)][i]
		for j := range p.Segs[:cap(p.Segs)] {
			p.Segs[:cap(p.Segs)][j] = "scribble"
		}
		p.Base, p.At, p.Upto = "scribble", 33, 44
	}
}

func TestAddLeavesItsManifest(t *testing.T) {
	m := roomy(4)
	before := everything(m)
	x := begin(t, "a roomy one", 2, nil)
	x.adds(m)
	if got := everything(m); !mani.Eq(got, before) {
		t.Errorf("P0.3: Add changed its manifest: %v, not %v", got, before)
	}
	scribble(m)
	written := everything(m)
	x.check("writing into what Add was handed")
	x.put("scribble", "")
	x.trim("scribble")
	x.adds(one(5))
	x.adds(one(6))
	x.trim("c00004", "b1", "b2", "b3", "scribble", "x1", "x2", "x3", "x4", "x5")
	if got := everything(m); !mani.Eq(got, written) {
		t.Errorf("P0.3: what Add was handed changed behind it: %v, not %v", got, written)
	}
}

func TestAddThatIsRefusedKeepsNothing(t *testing.T) {
	x := begin(t, "refused", 2, nil)
	x.adds(one(5, "a"))
	m := roomy(5)
	x.add(m)
	m.Txn = 9
	x.add(m)
	for _, name := range mani.Needs(m) {
		x.put(name, "")
	}
	x.trim("b1", "b2", "b3", "x1", "x2", "x3", "x4", "x5")
}

func TestFlightLeavesItsNames(t *testing.T) {
	room := []string{"c", "a", "c", "spare", "room"}
	before := slices.Clone(room)
	x := begin(t, "names", 1, map[string]string{"a": "", "b": "", "c": "", "spare": ""})
	x.flight(room[:3]...)
	if !slices.Equal(room, before) {
		t.Errorf("P0.3: Flight changed its names: %q", room)
	}
	for i := range room {
		room[i] = "b"
	}
	x.trim("b", "spare")
	x.flight("b")
	x.land()
	if !slices.Equal(room, []string{"b", "b", "b", "b", "b"}) {
		t.Errorf("P0.3: what Flight was handed changed behind it: %q", room)
	}
	x.trim("a", "b", "c", "spare")
}

func TestWhatNewestTellsIsTheCallersOwn(t *testing.T) {
	for at, x := range map[string]*both{
		"known by Add": begin(t, "known by Add", 2, nil),
		"known by New": begin(t, "known by New", 2, withManifests(roomy(4))),
	} {
		if len(x.w.known) == 0 {
			x.adds(roomy(4))
		}
		first, _ := x.k.Newest()
		second, _ := x.k.Newest()
		scribble(first)
		if !mani.Eq(second, roomy(4)) {
			t.Errorf("P0.3, %s: another answer changed: %v", at, second)
		}
		x.check("writing into what Newest told")
		x.put("scribble", "")
		x.trim("scribble")
		x.adds(one(5), one(6))
		if !mani.Eq(second, roomy(4)) {
			t.Errorf("P0.3, %s: an answer changed behind its call: %v", at, second)
		}
		x.trim("c00004", "b1", "b2", "b3", "scribble", "x1", "x2", "x3", "x4", "x5")
	}
}

func TestWhatLeftAndKeptTellIsTheCallersOwn(t *testing.T) {
	x := begin(t, "lists", 3, withManifests(one(1), one(2), one(3)))
	for _, name := range []string{"a", "b", "c", "d", "e"} {
		x.put(name, "")
	}
	x.trimmed()
	for range 3 {
		left, other := x.k.Left(), x.k.Left()
		held := slices.Clone(other)
		for i := range left[:cap(left)] {
			left[:cap(left)][i] = "scribble"
		}
		_ = append(left[:0], "more", "of", "it")
		kept, again := x.k.Kept(), x.k.Kept()
		for i := range kept[:cap(kept)] {
			kept[:cap(kept)][i] = 77
		}
		if !slices.Equal(other, held) || !slices.Equal(again, []int{1, 2, 3}) {
			t.Errorf("P0.3: another answer changed: %q, %d", other, again)
		}
		x.check("writing into what Left and Kept told")
		x.drop()
		if !slices.Equal(other, held) {
			t.Errorf("P0.3: an answer changed behind its call: %q", other)
		}
	}
	kept := x.k.Kept()
	x.adds(one(4), one(5))
	x.trimmed()
	x.dropsAll(x.k.Left()...)
	if !slices.Equal(kept, []int{1, 2, 3}) {
		t.Errorf("P0.3: an answer changed behind its call: %d", kept)
	}
}

// TestMany: neither Trim nor Drop goes through all that is there for each object.
func TestMany(t *testing.T) {
	const many = 60000
	s := store.New(0)
	for i := range many {
		s.Put("o"+strconv.Itoa(many+i), nil, false)
		s.Put(mani.Name(i+1), nil, false)
	}
	k := New(s, 3)
	for n := 1; n <= 2000; n++ {
		if e := k.Add(one(n, "o"+strconv.Itoa(many+n-1))); e != api.OK {
			t.Fatalf("P17.1: Add of %d: %d", n, e)
		}
	}
	if n := k.Trim(); n != 2*many-6 {
		t.Errorf("P17.1: Trim of many: %d, not %d", n, 2*many-6)
	}
	for i := range 2*many - 6 {
		if _, ok := k.Drop(); !ok {
			t.Fatalf("P17.1: Drop %d of many told that there is none", i)
		}
	}
	want := []string{"c01998", "c01999", "c02000", "o61997", "o61998", "o61999"}
	if got := s.List(""); !slices.Equal(got, want) {
		t.Errorf("G3: of many the store has %q, not %q", got, want)
	}
}

// TestNoMoreIsKept than the promises need: neither manifests that came and went, nor the texts that names are pieces of, nor what was dropped.
func TestNoMoreIsKept(t *testing.T) {
	const long = 1 << 18
	s := store.New(0)
	k := New(s, 3)
	before := inUse()
	for n := 1; n <= 300; n++ {
		text := func() string { return strings.Repeat(strconv.Itoa(n%10), long) }
		m := one(n, text()[:30], text()[:31])
		m.Parts[0].Base, m.Parts[0].At = text()[:20], 1
		if e := k.Add(m); e != api.OK {
			t.Fatalf("P17.1: Add of %d: %d", n, e)
		}
		k.Flight(text()[:25])
		if n%2 == 0 {
			k.Land()
		}
	}
	if more := inUse() - before; more > long {
		t.Errorf("%d bytes are kept of a few short names", more)
	}
	runtime.KeepAlive(k)
}

func inUse() int {
	runtime.GC()
	var m runtime.MemStats
	runtime.ReadMemStats(&m)
	return int(m.HeapAlloc)
}
