package keep

import (
	"fmt"
	"maps"
	"math"
	"slices"
	"strings"
	"testing"

	"remembrancer/api"
	"remembrancer/mani"
	"remembrancer/store"
)

func TestNewMost(t *testing.T) {
	for _, s := range []*store.Store{nil, store.New(0), store.New(1)} {
		for _, most := range []int{1, 2, 3} {
			if New(s, most) == nil {
				t.Errorf("P17.1: New with most %d answered nil", most)
			}
		}
		for _, most := range []int{0, 4, 5, -1, -3, math.MaxInt, math.MinInt, 1<<32 + 1, -1<<32 + 2} {
			if New(s, most) != nil {
				t.Errorf("P17.1: New with most %d did not answer nil", most)
			}
		}
	}
}

func TestNewOfAnEmptyStore(t *testing.T) {
	for most := 1; most <= 3; most++ {
		x := begin(t, "empty", most, nil)
		x.trim()
		x.dropsAll()
		x.land()
		x.dropsAll()
	}
}

func TestNewOfNoManifest(t *testing.T) {
	for most := 1; most <= 3; most++ {
		x := begin(t, "no manifest", most, map[string]string{"b": "1", "a": "2", "z": ""})
		x.dropsAll()
		x.trim("a", "b", "z")
		x.dropsAll("a", "b", "z")
	}
}

// TestNewKeepsTheNewest: of fewer than most, just as many, and more.
func TestNewKeepsTheNewest(t *testing.T) {
	all := []api.Manifest{one(1, "a"), one(2, "b"), one(9, "c"), one(10, "d"), one(100, "e"), one(99999, "f")}
	for many := range len(all) + 1 {
		for most := 1; most <= 3; most++ {
			at := fmt.Sprintf("%d manifests, most %d", many, most)
			x := begin(t, at, most, withManifests(all[:many]...))
			if got, want := x.k.Kept(), x.w.ns(); len(got) != min(many, most) || !slices.Equal(got, want) {
				t.Errorf("P17.1, %s: Kept %d", at, got)
			}
			older := max(many-most, 0)
			var want []string
			for _, m := range all[:older] {
				want = append(want, mani.Name(m.N))
			}
			want = append(want, []string{"a", "b", "c", "d", "e", "f"}[:older]...)
			x.trim(want...)
			x.dropsAll(want...)
			x.trim()
		}
	}
}

// TestNewHasNoQueue, and nothing under way, whatever the Keeper ahead of it had of that store.
func TestNewHasNoQueue(t *testing.T) {
	x := begin(t, "the one ahead", 1, withManifests(one(1, "a"), one(2, "b"), one(3, "c")))
	x.put("x", "x")
	x.put("y", "y")
	x.flight("x", "a")
	x.trim("c00001", "c00002", "b", "y")
	x.drops("c00001")
	next := &both{t, "the next one", x.s, New(x.s, 2), slowNew(maps.Clone(x.w.objects), 2)}
	next.check("New")
	next.dropsAll()
	next.trim("a", "x", "y")
}

// TestNewOfNamesThatLookAlike: they are objects as any others, also if a manifest lies there.
func TestNewOfNamesThatLookAlike(t *testing.T) {
	names := lookAlike()
	slices.Sort(names)
	for _, b := range []string{"", "junk", written(one(3, "a"))} {
		objects := map[string]string{"a": ""}
		for _, name := range names {
			objects[name] = b
		}
		x := begin(t, "names that look alike", 3, objects)
		if got := x.k.Kept(); len(got) != 0 {
			t.Errorf("P17.1: of names that look alike %d are kept", got)
		}
		all := slices.Sorted(maps.Keys(objects))
		x.trim(all...)
		x.dropsAll(all...)
	}
}

// TestNewOfWhatIsNone: under a manifest's name bytes that mani.Get does not read.
func TestNewOfWhatIsNone(t *testing.T) {
	good := written(one(7, "a", "b"))
	mayNot := []byte(good)
	mayNot[len(mayNot)-1] ^= 1
	for at, b := range map[string]string{
		"empty":         "",
		"junk":          "junk",
		"its end off":   good[:len(good)-1],
		"just its head": good[:strings.Index(good, "M")+6],
		"more behind":   good + "x",
		"a frame more":  good + good,
		"a byte turned": string(mayNot),
		"long":          strings.Repeat("x", 65536),
	} {
		x := begin(t, at, 3, map[string]string{"c00007": b, "a": "", "b": ""})
		if got := x.k.Kept(); len(got) != 0 {
			t.Errorf("P17.1, %s: %d are kept", at, got)
		}
		x.trim("c00007", "a", "b")
		objects := withManifests(one(2, "a"), one(4, "d"))
		objects["c00003"], objects["c00007"], objects["b"] = b, b, ""
		x = begin(t, at+", among others", 1, objects)
		x.trim("c00002", "c00003", "c00007", "a", "b")
		x = begin(t, at+", among others", 2, objects)
		x.trim("c00003", "c00007", "b")
		x.dropsAll("c00003", "c00007", "b")
	}
}

// TestNewOfAnotherName: a manifest whose N is not that of the name where it lies.
func TestNewOfAnotherName(t *testing.T) {
	for _, name := range []string{"c00000", "c00001", "c00006", "c00008", "c00070", "c70000", "c99999"} {
		objects := map[string]string{name: written(one(7, "a")), "a": ""}
		x := begin(t, "another name", 3, objects)
		x.trim(name, "a")
		maps.Copy(objects, withManifests(one(5, "b"), one(7, "c"), one(9, "d")))
		objects[name] = written(one(7, "a"))
		x = begin(t, "another name among others", 3, objects)
		x.trim(name, "a")
		x.dropsAll(name, "a")
	}
}

// TestNewReadsPastWhatIsNone: manifests that are none take no place among the newest.
func TestNewReadsPastWhatIsNone(t *testing.T) {
	objects := withManifests(one(3, "a"), one(5, "b"), one(8, "c"), one(11, "d"))
	for n := range 20 {
		if name := fmt.Sprintf("c%05d", n); objects[name] == "" {
			objects[name] = "junk"
		}
	}
	for most, want := range [][]int{1: {11}, 2: {8, 11}, 3: {5, 8, 11}} {
		if most == 0 {
			continue
		}
		x := begin(t, "past what is none", most, objects)
		if got := x.k.Kept(); !slices.Equal(got, want) {
			t.Errorf("P17.1: past what is none: Kept %d, not %d", got, want)
		}
		x.add(one(11, "a"))
		x.trimmed()
		x.adds(one(30, "a"))
	}
}

// TestNewTellsWhatTheManifestHas, all of its fields.
func TestNewTellsWhatTheManifestHas(t *testing.T) {
	m := three(44, []string{"base1", "s1", "s2"}, []string{"base2"}, []string{"base3", "s3"})
	x := begin(t, "of three parts", 2, withManifests(one(40, "x"), one(43), m))
	if got, ok := x.k.Newest(); !ok || !mani.Eq(got, m) {
		t.Errorf("P17.1: Newest is %v, not %v", got, m)
	}
	x.trim("c00040", "x")
}

func TestNewChangesNothingInTheStore(t *testing.T) {
	objects := withManifests(one(1, "a"), one(2, "b"), one(3, "c"))
	x := begin(t, "a store", 1, objects)
	x.k.Trim()
	x.k.Left()
	if got, want := x.s.List(""), slices.Sorted(maps.Keys(objects)); !slices.Equal(got, want) {
		t.Errorf("P17.1: behind New and Trim the store has %q, not %q", got, want)
	}
}

// TestNewOfANilStore: it is as one without objects.
func TestNewOfANilStore(t *testing.T) {
	for most := 1; most <= 3; most++ {
		k, w := New(nil, most), slowNew(map[string]string{}, most)
		if _, ok := k.Newest(); ok || len(k.Kept()) != 0 || len(k.Left()) != 0 {
			t.Errorf("P17.1: New of a nil store: %d, %q", k.Kept(), k.Left())
		}
		k.Flight("a", "b")
		for _, n := range []int{1, 2, 2, 1, 9, 8, 10, 99999} {
			if got, want := k.Add(one(n, "a")), w.add(one(n, "a")); got != want {
				t.Errorf("P17.1: Add of %d, of a nil store: %d, not %d", n, got, want)
			}
			if name, ok := k.Drop(); k.Trim() != 0 || name != "" || ok || !slices.Equal(k.Kept(), w.ns()) {
				t.Errorf("P17.1: of a nil store: Drop %q, Kept %d", name, k.Kept())
			}
		}
		k.Land()
		if m, ok := k.Newest(); !ok || m.N != 99999 || k.Trim() != 0 {
			t.Errorf("P17.1: of a nil store: Newest %v", m)
		}
	}
}

func TestNilKeeper(t *testing.T) {
	var k *Keeper
	for _, m := range []api.Manifest{{}, one(1, "a"), {N: -1}} {
		if e := k.Add(m); e != api.ErrOff {
			t.Errorf("P17.1: Add of a nil Keeper: %d, not ErrOff", e)
		}
	}
	k.Flight()
	k.Flight(nil...)
	k.Flight("a", "")
	k.Land()
	if n := k.Trim(); n != 0 {
		t.Errorf("P17.1: Trim of a nil Keeper: %d", n)
	}
	if name, ok := k.Drop(); name != "" || ok {
		t.Errorf("P17.1: Drop of a nil Keeper: %q %v", name, ok)
	}
	if k.Left() != nil || k.Kept() != nil {
		t.Errorf("P17.1: Left and Kept of a nil Keeper: %q %d", k.Left(), k.Kept())
	}
	if m, ok := k.Newest(); ok || m.Parts != nil || m.Offsets != nil || m.N != 0 || m.Txn != 0 {
		t.Errorf("P17.1: Newest of a nil Keeper: %v %v", m, ok)
	}
}

// TestZeroKeeper: nothing is promised of one that New did not make, but that its calls end and do not panic.
func TestZeroKeeper(t *testing.T) {
	var k Keeper
	k.Land()
	k.Flight("a")
	k.Add(one(1, "a"))
	k.Add(one(2, "a"))
	k.Newest()
	if name, ok := k.Drop(); k.Trim() != 0 || name != "" || ok || len(k.Left()) != 0 || len(k.Kept()) != 0 {
		t.Errorf("P0.1: a zero Keeper has %q, %d", k.Left(), k.Kept())
	}
}
