package refs

import (
	"math"
	"math/rand"
	"runtime"
	"slices"
	"strconv"
	"strings"
	"testing"
)

func TestNewHasNone(t *testing.T) {
	r := New()
	if r == nil {
		t.Fatal("P16.1: New answered nil")
	}
	checkAll(t, "new", r)
	for _, owner := range owners() {
		checkLet(t, "new", r, owner)
	}
	checkAll(t, "new, behind Let", r)
}

func TestNewIsNewEachTime(t *testing.T) {
	a, b := New(), New()
	a.Hold(1, "a")
	checkAll(t, "the other", b)
	b.Hold(1, "b", "a")
	checkAll(t, "the one", a, need{1, "a"})
	checkLet(t, "the one", a, 1, "a")
	checkAll(t, "the other, behind the one's Let", b, need{1, "a"}, need{1, "b"})
}

func TestHoldOfNoNames(t *testing.T) {
	for _, owner := range owners() {
		r := New()
		r.Hold(owner)
		r.Hold(owner, nil...)
		r.Hold(owner, []string{}...)
		checkAll(t, "of no names", r)
		checkLet(t, "of no names", r, owner)
		r.Hold(owner, "a")
		r.Hold(owner)
		checkAll(t, "of no names, behind one", r, need{owner, "a"})
	}
}

func TestHoldOfOne(t *testing.T) {
	for _, owner := range owners() {
		for _, name := range anyNames() {
			r := New()
			r.Hold(owner, name)
			checkAll(t, "of one", r, need{owner, name})
			checkLet(t, "of one", r, owner, name)
			checkAll(t, "of one, let", r)
		}
	}
}

func TestHoldOfSeveral(t *testing.T) {
	r := New()
	r.Hold(4, "c", "a", "d", "b")
	checkAll(t, "of several", r, need{4, "a"}, need{4, "b"}, need{4, "c"}, need{4, "d"})
	r.Hold(4, "bb", "", "e")
	checkOf(t, "of more of them", r, 4, "", "a", "b", "bb", "c", "d", "e")
	checkNames(t, "of more of them", r, "", "a", "b", "bb", "c", "d", "e")
}

// TestHoldEachOnce: of a name that the owner needs already, in whatever call.
func TestHoldEachOnce(t *testing.T) {
	for _, name := range anyNames() {
		for at, calls := range map[string][][]string{
			"twice in one call":         {{name, name}},
			"twice in two calls":        {{name}, {name}},
			"thrice in one and another": {{name, name, name}, {name}},
			"twice, others between":     {{name, "other", name}, {"other", name, "other"}},
		} {
			r, want := New(), &slow{}
			for _, call := range calls {
				r.Hold(2, call...)
				want.hold(2, call...)
			}
			checkCount(t, at, r, name, 1)
			checkAll(t, at, r, want.all...)
			checkLet(t, at, r, 2, want.of(2)...)
			checkAll(t, at+", let", r)
		}
	}
}

// TestHoldOfSomeThatAreThere: those that the owner needs already, with new ones, in whatever order.
func TestHoldOfSomeThatAreThere(t *testing.T) {
	for _, more := range [][]string{{"a", "n"}, {"n", "a"}, {"n", "a", "n"}, {"b", "a", "n"}, {"a", "n", "b"}} {
		r := made(need{1, "a"}, need{1, "b"}, need{2, "b"})
		r.Hold(1, more...)
		checkAll(t, "of some that are there", r, need{1, "a"}, need{1, "b"}, need{1, "n"}, need{2, "b"})
	}
}

// TestOwners: each is another one, whatever its number.
func TestOwners(t *testing.T) {
	r, want := New(), &slow{}
	for i, owner := range owners() {
		own := "of " + strconv.Itoa(i)
		r.Hold(owner, own, "all")
		want.hold(owner, own, "all")
		checkAll(t, "owners", r, want.all...)
	}
	checkCount(t, "owners", r, "all", len(owners()))
	for i, owner := range owners() {
		free := []string{"of " + strconv.Itoa(i)}
		if i == len(owners())-1 {
			free = []string{"all", free[0]}
		}
		checkLet(t, "owners", r, owner, free...)
		want.let(owner)
		checkAll(t, "owners, let", r, want.all...)
	}
	checkAll(t, "no owner", r)
}

// TestNamesAreBytes: names that look alike are not the same, and the empty one is one as any other.
func TestNamesAreBytes(t *testing.T) {
	r := New()
	r.Hold(1, anyNames()...)
	r.Hold(2, "a")
	checkOf(t, "any names", r, 1, anyNames()...)
	checkNames(t, "any names", r, anyNames()...)
	for _, name := range []string{"aaa", "B", "a\x00\x00", "\xfe", "e\u0301", "e", strings.Repeat("x", 39), strings.Repeat("x", 69999)} {
		checkCount(t, "names that are not there", r, name, 0)
	}
	rest := slices.DeleteFunc(anyNames(), func(name string) bool { return name == "a" })
	checkLet(t, "any names", r, 1, rest...)
	checkAll(t, "any names, let", r, need{2, "a"})
}

func TestTheEmptyName(t *testing.T) {
	r := made(need{1, ""}, need{2, ""}, need{2, "a"})
	checkAll(t, "the empty name", r, need{1, ""}, need{2, ""}, need{2, "a"})
	checkLet(t, "that another one needs", r, 1)
	checkAll(t, "that another one needs", r, need{2, ""}, need{2, "a"})
	checkLet(t, "that nobody else needs", r, 2, "", "a")
	checkAll(t, "that nobody else needs", r)
}

func TestLetOfOneThatNeedsNothing(t *testing.T) {
	r := made(need{1, "a"}, need{2, "a"}, need{2, "b"})
	r.Hold(5)
	for _, owner := range []int{0, 5, -1, 3, math.MinInt, math.MaxInt} {
		checkLet(t, "that needs nothing", r, owner)
		checkAll(t, "that needs nothing", r, need{1, "a"}, need{2, "a"}, need{2, "b"})
	}
}

func TestLet(t *testing.T) {
	for _, x := range []struct {
		at          string
		others, own []string
		free        []string
	}{
		{"what others need too", []string{"a", "b", "c"}, []string{"c", "a"}, nil},
		{"all that others need", []string{"a", "b"}, []string{"b", "a"}, nil},
		{"what nobody else needs", []string{"a", "c"}, []string{"d", "b", "bb"}, []string{"b", "bb", "d"}},
		{"what nobody else needs, at all", nil, []string{"d", "b", "c", "a"}, []string{"a", "b", "c", "d"}},
		{"some of each", []string{"a", "c", "e"}, []string{"e", "d", "c", "b", "f"}, []string{"b", "d", "f"}},
		{"one of each", []string{"z"}, []string{"z", "y"}, []string{"y"}},
	} {
		for _, before := range []bool{false, true} {
			r, want := New(), &slow{}
			hold := func(owner int, names []string) {
				r.Hold(owner, names...)
				want.hold(owner, names...)
			}
			if before {
				hold(1, x.own)
			}
			hold(2, x.others)
			hold(3, x.others)
			hold(1, x.own)
			checkLet(t, x.at, r, 1, x.free...)
			want.let(1)
			checkAll(t, x.at, r, want.all...)
			checkLet(t, x.at+", again", r, 1)
			checkAll(t, x.at+", again", r, want.all...)
			checkLet(t, x.at+", one of the two others", r, 3)
			checkLet(t, x.at+", the last one", r, 2, slices.Sorted(slices.Values(x.others))...)
			checkAll(t, x.at+", all of them", r)
		}
	}
}

// TestLetOneByOne: it is the last owner, whichever that is, that lets a name go.
func TestLetOneByOne(t *testing.T) {
	const many = 5
	r := rand.New(rand.NewSource(3))
	for range 50 {
		refs := New()
		for _, owner := range r.Perm(many) {
			refs.Hold(owner, "a", "b")
			refs.Hold(owner, "b")
		}
		for i, owner := range r.Perm(many) {
			checkCount(t, "one by one", refs, "a", many-i)
			checkCount(t, "one by one", refs, "b", many-i)
			free := []string{"a", "b"}
			if i < many-1 {
				free = nil
			}
			checkLet(t, "one by one", refs, owner, free...)
		}
		checkAll(t, "one by one", refs)
	}
}

func TestHoldBehindLet(t *testing.T) {
	r := made(need{1, "a"}, need{1, "b"}, need{2, "b"})
	checkLet(t, "first", r, 1, "a")
	r.Hold(1, "b")
	checkAll(t, "again, of what another one needs", r, need{1, "b"}, need{2, "b"})
	checkLet(t, "the other", r, 2)
	checkAll(t, "the other", r, need{1, "b"})
	r.Hold(1, "a")
	checkAll(t, "again, of what went", r, need{1, "a"}, need{1, "b"})
	checkLet(t, "again", r, 1, "a", "b")
	r.Hold(2, "a")
	checkAll(t, "by another one, of what went", r, need{2, "a"})
	checkLet(t, "the first again", r, 1)
	checkLet(t, "at the end", r, 2, "a")
	checkAll(t, "at the end", r)
}

func TestCount(t *testing.T) {
	r := New()
	checkCount(t, "that nobody needs", r, "a", 0)
	r.Hold(1, "a")
	checkCount(t, "one owner", r, "a", 1)
	r.Hold(1, "a", "a")
	checkCount(t, "one owner, told again", r, "a", 1)
	r.Hold(-1, "a")
	r.Hold(0, "a", "b")
	checkCount(t, "three owners", r, "a", 3)
	checkCount(t, "another name", r, "b", 1)
	r.Let(1)
	checkCount(t, "behind a Let", r, "a", 2)
	r.Let(1)
	r.Let(77)
	checkCount(t, "behind a Let of one that needs nothing", r, "a", 2)
	r.Let(0)
	r.Let(-1)
	checkCount(t, "behind all", r, "a", 0)
	checkCount(t, "behind all", r, "b", 0)
}

// TestAskingChangesNothing: whatever is asked, and however often.
func TestAskingChangesNothing(t *testing.T) {
	r := made(need{1, "a"}, need{2, "a"}, need{2, "b"})
	for range 20 {
		for _, owner := range owners() {
			r.Of(owner)
		}
		for _, name := range anyNames() {
			r.Count(name)
		}
		checkAll(t, "asked", r, need{1, "a"}, need{2, "a"}, need{2, "b"})
	}
	checkLet(t, "asked", r, 2, "b")
}

func TestNilRefs(t *testing.T) {
	var r *Refs
	for _, owner := range owners() {
		r.Hold(owner)
		r.Hold(owner, anyNames()...)
		if got := r.Let(owner); got != nil {
			t.Errorf("P16.1: Let of a nil Refs: %q", got)
		}
		if got := r.Of(owner); got != nil {
			t.Errorf("P16.1: Of of a nil Refs: %q", got)
		}
	}
	for _, name := range anyNames() {
		checkCount(t, "nil", r, name, 0)
	}
	if got := r.Names(); got != nil {
		t.Errorf("P16.1: Names of a nil Refs: %q", got)
	}
}

func TestZeroRefs(t *testing.T) {
	var r Refs
	checkAll(t, "zero", &r)
	checkLet(t, "zero", &r, 0)
	r.Hold(0)
	checkAll(t, "zero, of no names", &r)
	r.Hold(0, "a")
	checkAll(t, "zero, of one", &r, need{0, "a"})
	checkLet(t, "zero", &r, 0, "a")
}

func TestHoldLeavesItsNames(t *testing.T) {
	room := []string{"c", "a", "c", "b", "spare", "room"}
	before := slices.Clone(room)
	r := New()
	r.Hold(1, room[:4]...)
	r.Hold(2, room[3:4]...)
	if !slices.Equal(room, before) {
		t.Errorf("P0.3: Hold changed its names: %q", room)
	}
	for i := range room {
		room[i] = "z" + strconv.Itoa(i)
	}
	checkAll(t, "its names written over", r, need{1, "a"}, need{1, "b"}, need{1, "c"}, need{2, "b"})
	written := slices.Clone(room)
	checkLet(t, "its names written over", r, 1, "a", "c")
	r.Hold(1, "d")
	if !slices.Equal(room, written) {
		t.Errorf("P0.3: what Hold was handed changed behind it: %q", room)
	}
}

// scribble writes into all that an answer has, spare room too.
func scribble(names []string) {
	names = names[:cap(names)]
	for i := range names {
		names[i] = "scribble"
	}
}

func TestWhatIsToldIsTheCallersOwn(t *testing.T) {
	all := []need{{1, "a"}, {1, "b"}, {1, "c"}, {2, "a"}, {2, "b"}, {2, "c"}, {3, "d"}, {3, "e"}, {3, "f"}}
	for at, ask := range map[string]func(r *Refs) []string{
		"Of":         func(r *Refs) []string { return r.Of(1) },
		"Of another": func(r *Refs) []string { return r.Of(2) },
		"Names":      func(r *Refs) []string { return r.Names() },
	} {
		r := made(all...)
		first, second := ask(r), ask(r)
		held := slices.Clone(second)
		scribble(first)
		_ = append(first[:0], "more", "of", "it", "and", "more", "of", "it")
		if !slices.Equal(second, held) {
			t.Errorf("P0.3: %s: another answer changed: %q", at, second)
		}
		checkAll(t, at+" written over", r, all...)
		last := ask(r)
		r.Hold(1, "aa", "x")
		r.Let(2)
		r.Let(1)
		if !slices.Equal(last, held) {
			t.Errorf("P0.3: %s: an answer changed behind its call: %q", at, last)
		}
		checkAll(t, at+" written over, let", r, all[6:]...)
	}
}

func TestWhatLetTellsIsTheCallersOwn(t *testing.T) {
	r := made(need{1, "a"}, need{1, "b"}, need{1, "c"}, need{2, "d"}, need{2, "e"}, need{2, "c"})
	first := r.Let(1)
	r.Hold(1, "a", "b")
	second := r.Let(1)
	scribble(first)
	if !slices.Equal(second, []string{"a", "b"}) {
		t.Errorf("P0.3: another answer changed: %q", second)
	}
	checkAll(t, "Let written over", r, need{2, "c"}, need{2, "d"}, need{2, "e"})
	checkLet(t, "another one", r, 2, "c", "d", "e")
	if !slices.Equal(second, []string{"a", "b"}) {
		t.Errorf("P0.3: an answer changed behind its call: %q", second)
	}
}

// TestTheOrderOfTelling: whatever the order and the cut of the calls, what is told is the same.
func TestTheOrderOfTelling(t *testing.T) {
	r := rand.New(rand.NewSource(11))
	all := manyNeeds(r, 300)
	for range 20 {
		refs, freed := New(), []string{}
		for _, i := range r.Perm(len(all)) {
			refs.Hold(all[i].owner, all[i].name)
		}
		checkAll(t, "in any order", refs, all...)
		for _, i := range r.Perm(len(owners())) {
			freed = append(freed, refs.Let(owners()[i])...)
		}
		slices.Sort(freed)
		if want := (&slow{all}).names(); !slices.Equal(freed, want) {
			t.Errorf("P16.1: in any order: %q were let go, not %q", freed, want)
		}
		checkAll(t, "in any order, let", refs)
	}
}

// manyNeeds are that many tries at needs, each once.
func manyNeeds(r *rand.Rand, tries int) []need {
	var s slow
	for range tries {
		s.hold(owners()[r.Intn(len(owners()))], anyName(r))
	}
	return s.all
}

func anyName(r *rand.Rand) string {
	if r.Intn(4) == 0 {
		return anyNames()[r.Intn(len(anyNames()))]
	}
	return strconv.Itoa(r.Intn(30))
}

// TestManySteps holds a Refs against the slow one, and against a twin that is told the same and asked nothing on the way.
func TestManySteps(t *testing.T) {
	for seed := range int64(15) {
		r := rand.New(rand.NewSource(seed))
		refs, twin, want := New(), New(), &slow{}
		for range 150 {
			step(t, r, refs, twin, want)
			checkAll(t, "many steps", refs, want.all...)
		}
		checkAll(t, "the twin", twin, want.all...)
		if t.Failed() {
			t.Fatalf("seed %d", seed)
		}
	}
}

// step does one thing to all three.
func step(t *testing.T, r *rand.Rand, refs, twin *Refs, want *slow) {
	t.Helper()
	owner := owners()[r.Intn(len(owners()))]
	if r.Intn(5) == 0 {
		free := want.let(owner)
		checkLet(t, "many steps", refs, owner, free...)
		checkLet(t, "the twin", twin, owner, free...)
		return
	}
	names := make([]string, r.Intn(6))
	for i := range names {
		names[i] = anyName(r)
	}
	refs.Hold(owner, names...)
	twin.Hold(owner, names...)
	want.hold(owner, names...)
}

// TestMany: none of the calls goes through all that is there for each name.
func TestMany(t *testing.T) {
	const many = 100000
	r := New()
	var all []string
	for i := range many {
		all = append(all, "n"+strconv.Itoa(many+i))
		r.Hold(i, all[i], "all")
	}
	r.Hold(-1, all...)
	r.Hold(-1, all...)
	checkCount(t, "many", r, "all", many)
	checkOf(t, "many", r, -1, all...)
	checkNames(t, "many", r, append([]string{"all"}, all...)...)
	for i := range many - 1 {
		checkLet(t, "many", r, i)
		checkCount(t, "many", r, all[i], 1)
	}
	checkLet(t, "many", r, many-1, "all")
	checkLet(t, "many", r, -1, all...)
	checkNames(t, "many", r)
}

// TestNoMoreIsKept than the promises need: neither the text that a name is a piece of, nor those that came and went.
func TestNoMoreIsKept(t *testing.T) {
	const many, long = 200, 1 << 20
	r := New()
	before := inUse()
	for i := range many {
		text := strings.Repeat("long", long/4)
		r.Hold(i, text[:i+1])
		r.Hold(-1, text)
		r.Let(-1)
	}
	if more := inUse() - before; more > many*long/10 {
		t.Errorf("%d bytes are kept of %d short names", more, many)
	}
	checkCount(t, "short names", r, "l", 1)
	runtime.KeepAlive(r)
}

// TestNoEmptyOwnerIsKept: one that needs nothing is as one that was never told of.
func TestNoEmptyOwnerIsKept(t *testing.T) {
	r := New()
	for owner := range 1000 {
		r.Hold(-owner)
		r.Hold(owner)
		r.Let(owner)
		r.Hold(owner, "a", "b")
		r.Let(owner)
		r.Hold(owner)
	}
	if len(r.needs) != 0 || len(r.owners) != 0 {
		t.Errorf("%d owners and %d names are kept for nothing", len(r.needs), len(r.owners))
	}
}

func inUse() int {
	runtime.GC()
	var m runtime.MemStats
	runtime.ReadMemStats(&m)
	return int(m.HeapAlloc)
}
