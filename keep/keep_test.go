package keep

import (
	"math"
	"slices"
	"strconv"
	"strings"
	"testing"

	"remembrancer/api"
	"remembrancer/mani"
)

func TestAddOfTheFirst(t *testing.T) {
	for _, n := range []int{1, 2, 5, 99998, 99999} {
		for most := 1; most <= 3; most++ {
			x := begin(t, "the first one", most, nil)
			x.adds(one(n, "a"))
			if got := x.k.Kept(); !slices.Equal(got, []int{n}) {
				t.Errorf("P17.1: behind the Add of %d Kept is %d", n, got)
			}
			x.trim()
		}
	}
}

// mayNot are manifests that mani.May says no to, some of them with an N that is not above all known, too.
func mayNot() map[string]api.Manifest {
	of := func(change func(m *api.Manifest)) api.Manifest {
		m := one(50, "a")
		change(&m)
		return m
	}
	return map[string]api.Manifest{
		"zero":           {},
		"N 0":            of(func(m *api.Manifest) { m.N, m.Txn = 0, 0 }),
		"N below 0":      of(func(m *api.Manifest) { m.N, m.Txn = -1, -1 }),
		"N far below 0":  of(func(m *api.Manifest) { m.N, m.Txn = math.MinInt, math.MinInt }),
		"N above":        of(func(m *api.Manifest) { m.N, m.Txn = 100000, 100000 }),
		"N far above":    of(func(m *api.Manifest) { m.N, m.Txn = math.MaxInt, math.MaxInt }),
		"another Txn":    of(func(m *api.Manifest) { m.Txn = 49 }),
		"no Offsets":     of(func(m *api.Manifest) { m.Offsets = nil }),
		"four Offsets":   of(func(m *api.Manifest) { m.Offsets = make([]int, 4) }),
		"an Offset 61":   of(func(m *api.Manifest) { m.Offsets[0] = 61 }),
		"no Parts":       of(func(m *api.Manifest) { m.Parts = nil }),
		"four Parts":     of(func(m *api.Manifest) { m.Parts = make([]api.Part, 4) }),
		"no Base at At":  of(func(m *api.Manifest) { m.Parts[0].At = 1 }),
		"Upto below At":  of(func(m *api.Manifest) { m.Parts[0] = api.Part{Base: "b", At: 2, Upto: 1} }),
		"an empty Seg":   of(func(m *api.Manifest) { m.Parts[0].Segs = []string{"a", ""} }),
		"a long Seg":     of(func(m *api.Manifest) { m.Parts[0].Segs = []string{strings.Repeat("x", 41)} }),
		"1,001 Segs":     of(func(m *api.Manifest) { m.Parts[0].Segs = slices.Repeat([]string{"x"}, 1001) }),
		"below all, too": {N: 1, Txn: 1},
		"the same, too":  {N: 20, Txn: 20},
	}
}

// TestAddOfWhatMayNotBe: ErrForm, ahead of ErrRange, and nothing has changed.
func TestAddOfWhatMayNotBe(t *testing.T) {
	for at, m := range mayNot() {
		x := begin(t, at, 2, nil)
		if e := x.add(m); e != api.ErrForm {
			t.Errorf("P17.1, %s: Add: %d, not ErrForm", at, e)
		}
		x.put("a", "a")
		x.trim("a")
		x.adds(one(10, "a"), one(20, "b"))
		if e := x.add(m); e != api.ErrForm {
			t.Errorf("P17.1, %s: Add behind others: %d, not ErrForm", at, e)
		}
		x.trim()
		x.adds(one(21, "c"))
		x.trim("c00010", "a")
	}
}

// TestAddOfOneThatIsNotAbove: ErrRange, and nothing has changed.
func TestAddOfOneThatIsNotAbove(t *testing.T) {
	for most := 1; most <= 3; most++ {
		x := begin(t, "not above", most, withManifests(one(3, "a"), one(5, "b"), one(20, "c")))
		for _, n := range []int{1, 2, 3, 4, 5, 6, 19, 20} {
			if e := x.add(one(n, "new")); e != api.ErrRange {
				t.Errorf("P17.1: Add of %d behind 20: %d, not ErrRange", n, e)
			}
		}
		x.put("new", "")
		x.trimmed()
		x.dropsAll(x.k.Left()...)
		x.adds(one(21, "d"))
		for _, n := range []int{3, 20, 21} {
			if e := x.add(one(n, "new")); e != api.ErrRange {
				t.Errorf("P17.1: Add of %d behind 21: %d, not ErrRange", n, e)
			}
		}
		x.adds(one(99999, "e"))
		if e := x.add(one(99999, "e")); e != api.ErrRange {
			t.Errorf("P17.1: Add of the greatest again: %d, not ErrRange", e)
		}
	}
}

// TestAddOfOneThatIsNoLongerKept: those that were known stay known.
func TestAddOfOneThatIsNoLongerKept(t *testing.T) {
	for most := 1; most <= 3; most++ {
		x := begin(t, "no longer kept", most, nil)
		x.adds(one(2, "a"), one(4, "b"), one(6, "c"), one(8, "d"), one(10, "e"))
		x.trimmed()
		for {
			if _, ok := x.drop(); !ok {
				break
			}
		}
		for _, n := range []int{1, 2, 3, 4, 5, 6, 7, 8, 9, 10} {
			if e := x.add(one(n, "x")); e != api.ErrRange {
				t.Errorf("P17.1: Add of %d behind 10: %d, not ErrRange", n, e)
			}
		}
		x.adds(one(11, "x"))
	}
}

// TestAddWhenTheStoreHasItNoMore: it is known all the same, and so is one that was never put.
func TestAddWhenTheStoreHasItNoMore(t *testing.T) {
	x := begin(t, "gone", 2, nil)
	x.adds(one(5, "a"))
	x.gone("c00005")
	x.gone("a")
	if e := x.add(one(5, "a")); e != api.ErrRange {
		t.Errorf("P17.1: Add of one that the store has no more: %d, not ErrRange", e)
	}
	x.add(one(6, "b"))
	x.put("b", "")
	x.put("a", "")
	x.trim()
	x.add(one(7, "b"))
	x.trim("a")
}

// TestAddOfOneMoreThanMost: the oldest one is no longer kept.
func TestAddOfOneMoreThanMost(t *testing.T) {
	for most := 1; most <= 3; most++ {
		x := begin(t, "most "+strconv.Itoa(most), most, nil)
		var want []int
		for n := 1; n <= 9; n += 2 {
			x.adds(one(n, "of"+strconv.Itoa(n), "all"))
			want = append(want, n)
			if got := x.k.Kept(); !slices.Equal(got, want[max(len(want)-most, 0):]) {
				t.Errorf("P17.1, most %d: behind the Add of %d Kept is %d", most, n, got)
			}
			if m, ok := x.k.Newest(); !ok || !mani.Eq(m, one(n, "of"+strconv.Itoa(n), "all")) {
				t.Errorf("P17.1, most %d: behind the Add of %d Newest is %v", most, n, m)
			}
		}
		x.trimmed()
		if got := x.k.Left(); len(got) != 2*(5-most) || got[0] != "c00001" {
			t.Errorf("P17.1, most %d: %q is queued", most, got)
		}
	}
}

// TestAddOfATooLargeOne: mani.May says nothing of how many bytes it has.
func TestAddOfATooLargeOne(t *testing.T) {
	m := one(3)
	for i := range 3 {
		m.Parts = append(m.Parts[:i], api.Part{Upto: 9, Segs: slices.Repeat([]string{strings.Repeat("x", 40)}, 1000)})
	}
	if _, e := mani.Put(m); e != api.ErrLarge {
		t.Fatalf("the manifest has room: %d", e)
	}
	x := begin(t, "too large", 1, nil)
	if e := x.add(m); e != api.OK {
		t.Errorf("P17.1: Add of a too large one: %d, not OK", e)
	}
	x.put(strings.Repeat("x", 40), "")
	x.put(strings.Repeat("x", 39), "")
	x.trim(strings.Repeat("x", 39))
}

// TestAddNeedsAll that the parts name: bases and segments of each, and itself.
func TestAddNeedsAll(t *testing.T) {
	x := begin(t, "all parts", 1, nil)
	x.adds(three(3, []string{"b1", "x1", "x2"}, []string{"b2", "x3", "b1"}, []string{"b3"}))
	x.put("free", "")
	x.trim("free")
	x.adds(one(4))
	x.trim("c00003", "b1", "b2", "b3", "free", "x1", "x2", "x3")
	x.dropsAll("c00003", "b1", "b2", "b3", "free", "x1", "x2", "x3")
}

func TestFlightAndLand(t *testing.T) {
	for at, calls := range map[string][][]string{
		"no call":                 nil,
		"no name":                 {nil},
		"no name, twice":          {{}, nil},
		"one":                     {{"b"}},
		"several":                 {{"c", "a"}},
		"all":                     {{"a", "b", "c", "c00009", "d"}},
		"in several calls":        {{"c"}, {"a"}, {}, {"d"}},
		"twice in one call":       {{"b", "b"}},
		"twice in two calls":      {{"b"}, {"b", "a"}},
		"some that are not there": {{"x", "y"}, {"b", ""}},
		"a manifest's name":       {{"c00009"}},
		"no object's name":        {{"", strings.Repeat("x", 41), "\xff"}},
	} {
		x := begin(t, at, 2, map[string]string{"a": "", "b": "", "c": "", "d": "", "c00009": "junk"})
		all := []string{"c00009", "a", "b", "c", "d"}
		free := slices.DeleteFunc(slices.Clone(all), func(name string) bool { return slices.Contains(slices.Concat(calls...), name) })
		for _, names := range calls {
			x.flight(names...)
		}
		x.trim(free...)
		x.land()
		x.trim(all...)
		x.land()
		x.trim(all...)
		for _, names := range calls {
			x.flight(names...)
		}
		x.dropsAll(free...)
		x.land()
		x.dropsAll()
		x.trimmed()
	}
}

// TestFlightOfWhatComes: the name is needed also if it was not there yet.
func TestFlightOfWhatComes(t *testing.T) {
	x := begin(t, "what comes", 1, nil)
	x.flight("a", "c00002")
	x.put("a", "")
	x.put("b", "")
	x.put("c00002", written(one(2, "a")))
	x.trim("b")
	x.land()
	x.trim("c00002", "a", "b")
	x.add(one(2, "a"))
	x.dropsAll("b")
}

// TestFlightOfWhatIsKept: Land lets nothing go that a kept manifest needs too.
func TestFlightOfWhatIsKept(t *testing.T) {
	x := begin(t, "what is kept", 1, nil)
	x.adds(one(1, "a", "b"))
	x.flight("a", "c", "c00001")
	x.put("c", "")
	x.trim()
	x.land()
	x.trim("c")
	x.flight("b", "c00001")
	x.adds(one(2, "a"))
	x.trim("c")
	x.land()
	x.trim("c00001", "b", "c")
	x.dropsAll("c00001", "b", "c")
}

// TestLandWithNothingUnderWay changes nothing.
func TestLandWithNothingUnderWay(t *testing.T) {
	x := begin(t, "nothing under way", 3, withManifests(one(1, "a"), one(2, "a", "b")))
	x.land()
	x.put("c", "")
	x.trim("c")
	x.land()
	x.land()
	x.dropsAll("c")
}

// TestTheQueue: manifests that are not kept first, rising, then all else, rising.
func TestTheQueue(t *testing.T) {
	x := begin(t, "the queue", 1, nil)
	for _, name := range []string{"z", "a", "c00011", "c0002", "c99999", "c000001", "c00000", "b", "d00000", "B", "c00010", "c"} {
		x.put(name, "junk")
	}
	x.adds(one(9, "n"), one(12, "m"))
	want := []string{"c00000", "c00009", "c00010", "c00011", "c99999", "B", "a", "b", "c", "c000001", "c0002", "d00000", "n", "z"}
	x.trim(want...)
	x.dropsAll(want...)
	if got := x.s.List(""); !slices.Equal(got, []string{"c00012", "m"}) {
		t.Errorf("G3: the store has %q", got)
	}
}

// TestWhoNeedsIt: what one kept manifest needs, two of them, only one that is no longer kept, what is under way alone.
func TestWhoNeedsIt(t *testing.T) {
	x := begin(t, "who needs it", 2, nil)
	x.adds(one(1, "old", "oldAndMiddle", "all"), one(2, "middle", "oldAndMiddle", "both", "all"), one(3, "new", "both", "all"))
	x.put("way", "")
	x.put("none", "")
	x.flight("way", "old")
	x.trim("c00001", "none")
	x.land()
	x.trim("c00001", "none", "old", "way")
	x.adds(one(4, "newest", "way"))
	x.trim("c00001", "c00002", "middle", "none", "old", "oldAndMiddle")
	x.adds(one(5))
	x.trim("c00001", "c00002", "c00003", "all", "both", "middle", "new", "none", "old", "oldAndMiddle")
	x.adds(one(6))
	want := []string{"c00001", "c00002", "c00003", "c00004", "all", "both", "middle", "new", "newest", "none", "old", "oldAndMiddle", "way"}
	x.trim(want...)
	x.dropsAll(want...)
}

// TestManifestsThatNeedManifests: by name they are objects as any others.
func TestManifestsThatNeedManifests(t *testing.T) {
	x := begin(t, "needed by another one", 1, nil)
	x.adds(one(1, "a"), one(2, "c00001", "c00002"))
	x.trim("a")
	x.adds(one(3, "c00001"))
	x.trim("c00002", "a")
	x.dropsAll("c00002", "a")
	x.adds(one(4))
	x.dropsAll()
	x.trim("c00001", "c00003")
}

func TestTrimTwice(t *testing.T) {
	x := begin(t, "twice", 1, map[string]string{"a": "", "b": "", "c": "", "c00001": ""})
	x.trim("c00001", "a", "b", "c")
	x.trim("c00001", "a", "b", "c")
	x.drops("c00001", "a")
	x.trim("b", "c")
	x.trim("b", "c")
	x.flight("b")
	x.trim("c")
	x.dropsAll("c")
	x.trim()
	x.trim()
}

// TestTrimIsOfItsTime: what is put behind it, or let go behind it, is in the queue only behind the next one.
func TestTrimIsOfItsTime(t *testing.T) {
	x := begin(t, "of its time", 1, map[string]string{"b": ""})
	x.flight("f")
	x.put("f", "")
	x.adds(one(1, "n"))
	x.trim("b")
	x.put("a", "")
	x.put("c", "")
	x.land()
	x.adds(one(2, "m"))
	x.dropsAll("b")
	if !x.s.Has("a", "c", "f", "c00001", "n") {
		t.Errorf("P17.1: behind the Drops the store has %q", x.s.List(""))
	}
	x.trim("c00001", "a", "c", "f", "n")
	x.dropsAll("c00001", "a", "c", "f", "n")
}

// TestDropPassesBy what is needed by now, and what is there no more.
func TestDropPassesBy(t *testing.T) {
	for at, change := range map[string]func(x *both){
		"under way":             func(x *both) { x.flight("b", "d", "c00004") },
		"needed by a new one":   func(x *both) { x.add(one(9, "d", "b", "c00004")) },
		"needed by one of each": func(x *both) { x.add(one(9, "d")); x.flight("c00004", "b") },
		"gone":                  func(x *both) { x.gone("d"); x.gone("b"); x.gone("c00004") },
		"gone, and under way":   func(x *both) { x.gone("d"); x.gone("b"); x.flight("c00004", "d", "b", "x") },
	} {
		x := begin(t, at, 2, map[string]string{"a": "", "b": "", "c": "", "d": "", "c00003": "", "c00004": ""})
		x.trim("c00003", "c00004", "a", "b", "c", "d")
		x.drops("c00003")
		change(x)
		x.drops("a")
		if got := x.k.Left(); !slices.Equal(got, []string{"b", "c", "d"}) {
			t.Errorf("P17.1, %s: Left is %q", at, got)
		}
		x.drops("c")
		if got := x.k.Left(); !slices.Equal(got, []string{"d"}) {
			t.Errorf("P17.1, %s: Left is %q", at, got)
		}
		x.dropsAll()
		if got := x.k.Left(); len(got) != 0 {
			t.Errorf("P17.1, %s: Left at the end is %q", at, got)
		}
	}
}

// TestDropPassesByAll that is left: "", false, and the queue is empty then.
func TestDropPassesByAll(t *testing.T) {
	x := begin(t, "all passed by", 1, map[string]string{"a": "", "b": "", "c": ""})
	x.trim("a", "b", "c")
	x.flight("a", "b")
	x.gone("c")
	if name, ok := x.drop(); name != "" || ok || len(x.k.Left()) != 0 {
		t.Errorf("P17.1: Drop when all is passed by: %q %v, Left %q", name, ok, x.k.Left())
	}
	// What was passed by comes again only behind the next Trim.
	x.land()
	x.dropsAll()
	x.trim("a", "b")
	x.dropsAll("a", "b")
}

// TestDropOfAManifestThatWasPutAheadOfItsAdd: queued when it was not known, it is kept by now.
func TestDropOfAManifestThatWasPutAheadOfItsAdd(t *testing.T) {
	x := begin(t, "put ahead of its Add", 1, nil)
	m := one(5, "a")
	x.put("c00005", written(m))
	x.put("a", "")
	x.put("b", "")
	x.trim("c00005", "a", "b")
	x.add(m)
	x.dropsAll("b")
	if !x.s.Has("c00005", "a") {
		t.Errorf("G2: the store has %q", x.s.List(""))
	}
}

// TestDropOfWhatCameAgain: it goes by the name, whatever lies there by now.
func TestDropOfWhatCameAgain(t *testing.T) {
	x := begin(t, "what came again", 1, map[string]string{"a": "1", "b": "1"})
	x.trim("a", "b")
	x.gone("a")
	x.put("a", "other bytes")
	x.dropsAll("a", "b")
}

// TestDropOfWhatIsFreeAgain: needed behind the Trim, and not any more at the Drop.
func TestDropOfWhatIsFreeAgain(t *testing.T) {
	x := begin(t, "free again", 1, map[string]string{"a": "", "b": "", "c": ""})
	x.trim("a", "b", "c")
	x.flight("b", "c")
	x.add(one(1, "c"))
	x.drops("a")
	x.land()
	x.add(one(2))
	x.dropsAll("b", "c")
}

// TestKeptOfAStoreThatChanges: what others do with the store behind New changes neither what is known nor what is kept.
func TestKeptOfAStoreThatChanges(t *testing.T) {
	x := begin(t, "a store that changes", 2, withManifests(one(1, "a"), one(2, "b")))
	x.put("c00003", written(one(3, "x")))
	x.put("x", "")
	x.gone("c00001")
	x.gone("b")
	if got := x.k.Kept(); !slices.Equal(got, []int{1, 2}) {
		t.Errorf("P17.1: Kept is %d", got)
	}
	x.trim("c00003", "x")
	x.add(one(3, "x"))
	x.dropsAll()
}

// TestSeveralKeepers of one store: each has a queue of its own.
func TestSeveralKeepers(t *testing.T) {
	x := begin(t, "the one", 3, withManifests(one(1, "a"), one(2, "b"), one(3, "c")))
	other := New(x.s, 1)
	x.put("z", "")
	x.trim("z")
	if n := other.Trim(); n != 5 {
		t.Errorf("P17.1: the other one's Trim: %d, not 5", n)
	}
	if name, ok := other.Drop(); name != "c00001" || !ok {
		t.Errorf("P17.1: the other one's Drop: %q %v", name, ok)
	}
	delete(x.w.objects, "c00001")
	x.check("the other one's Drop")
	x.dropsAll("z")
}
