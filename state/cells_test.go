package state

import (
	"math"
	"math/rand"
	"reflect"
	"slices"
	"testing"

	"remembrancer/api"
	"remembrancer/mut"
)

func checkLoad(t *testing.T, at string, s *State, want api.Errno, cs ...api.Cell) {
	t.Helper()
	if got := s.Load(cs...); got != want {
		t.Errorf("P10.1, %s: Load of %d cells: %d, not %d", at, len(cs), got, want)
	}
}

// farKeys are keys with numbers that no change may have, too, by rising keys.
func farKeys() []api.Key {
	ns := []int{math.MinInt, -1, 0, 3, math.MaxInt}
	var out []api.Key
	for _, group := range ns {
		for _, space := range ns {
			for _, id := range ns {
				out = append(out, by(group, space, id))
			}
		}
	}
	return out
}

// farCells are cells of those keys, with one, two or all three.
func farCells() []api.Cell {
	var out []api.Cell
	for i, k := range farKeys() {
		n := int64(i)
		c := api.Cell{Key: k}
		which := i%7 + 1
		if which&1 > 0 {
			c.Has, c.Value = true, n
		}
		if which&2 > 0 {
			c.List = []int64{n, -n}
		}
		if which&4 > 0 {
			c.Dict = fields(n%8, n)
		}
		out = append(out, c)
	}
	return out
}

// scribble writes over all of cs and of their lists, spare room too.
func scribble(cs []api.Cell) {
	for _, c := range cs {
		ns, fs := c.List[:cap(c.List)], c.Dict[:cap(c.Dict)]
		for i := range ns {
			ns[i] = -77
		}
		for i := range fs {
			fs[i] = api.Field{F: -77, V: -77}
		}
	}
	cs = cs[:cap(cs)]
	for i := range cs {
		cs[i] = api.Cell{Key: by(-7, -7, -7), Has: true, Value: -77}
	}
}

// roomy is cs anew, with spare room behind each list and behind the whole.
func roomy(cs []api.Cell) []api.Cell {
	out := slices.Grow([]api.Cell{}, len(cs)+5)
	for _, c := range cs {
		c.List = append(slices.Grow([]int64{}, 20), c.List...)
		c.Dict = append(slices.Grow([]api.Field{}, 20), c.Dict...)
		out = append(out, c)
	}
	return out
}

// TestCellsOfEachCombination: of one, two and all of the three, nil where there are none.
func TestCellsOfEachCombination(t *testing.T) {
	k := key(t, 1, 6, 1)
	for _, n := range numbers() {
		for _, want := range []api.Cell{
			withValue(k, n),
			withList(k, n),
			withFields(k, fields(5, n)...),
			{Key: k, Has: true, Value: n, List: []int64{n, 1}},
			{Key: k, Has: true, Value: n, Dict: fields(0, 1, 7, n)},
			{Key: k, List: []int64{1, n}, Dict: fields(0, n, 1, n)},
			{Key: k, Has: true, Value: n, List: []int64{n}, Dict: fields(3, n)},
		} {
			checkAll(t, "a combination", made(t, want), want)
		}
	}
}

// TestCellsByRisingKeys: the expected order is written out, so that not even the order's own test is trusted.
func TestCellsByRisingKeys(t *testing.T) {
	s := New()
	s.Push(by(1, 0, 1), 1)
	s.Set(by(0, 1, 20), 2)
	s.PutField(by(0, 0, 20), 3, 3)
	s.Set(by(0, 0, 8), 4)
	s.Push(by(0, 0, 20), 5)
	s.PutField(by(math.MinInt, 9, 9), 6, 6)
	s.Set(by(math.MaxInt, 0, 0), 7)
	s.Push(by(0, 0, 12), 8)
	s.Set(by(0, 0, 20), 9)
	s.PutField(by(0, 1, 0), 0, 10)
	checkAll(t, "rising", s,
		withFields(by(math.MinInt, 9, 9), fields(6, 6)...),
		withValue(by(0, 0, 8), 4),
		withList(by(0, 0, 12), 8),
		api.Cell{Key: by(0, 0, 20), Has: true, Value: 9, List: count(5, 1), Dict: fields(3, 3)},
		withFields(by(0, 1, 0), fields(0, 10)...),
		withValue(by(0, 1, 20), 2),
		withList(by(1, 0, 1), 1),
		withValue(by(math.MaxInt, 0, 0), 7),
	)
}

// TestCellsOfAnyKey: keys that KeyOf does not give are told as well.
func TestCellsOfAnyKey(t *testing.T) {
	want := farCells()
	r := rand.New(rand.NewSource(10))
	for range 10 {
		var mixed []api.Cell
		for _, i := range r.Perm(len(want)) {
			mixed = append(mixed, want[i])
		}
		s := made(t, mixed...)
		checkAll(t, "any key", s, want...)
		got := s.Cells()
		for i := range len(got) - 1 {
			if !mut.Less(got[i].Key, got[i+1].Key) {
				t.Fatalf("P10.1: not by mut.Less: %v, %v", got[i].Key, got[i+1].Key)
			}
		}
	}
}

// TestCellsOfWhatIsGone: a key that has nothing any more is not told.
func TestCellsOfWhatIsGone(t *testing.T) {
	s := made(t, someCells()...)
	for i, c := range someCells() {
		s.Unset(c.Key)
		s.Clear(c.Key)
		for _, field := range c.Dict {
			s.CutField(c.Key, field.F)
		}
		s.Push(c.Key)
		checkAll(t, "gone", s, someCells()[i+1:]...)
	}
}

func TestToldCellsAreTheCallersOwn(t *testing.T) {
	for _, want := range [][]api.Cell{someCells(), farCells(), {withList(by(0, 0, 0), count(0, 100)...)}} {
		s := made(t, want...)
		first, second := s.Cells(), s.Cells()
		scribble(first)
		if !reflect.DeepEqual(second, want) {
			t.Errorf("P0.3: another answer changed: %v", second)
		}
		checkAll(t, "an answer written over", s, want...)
		held := s.Cells()
		s.Load(withValue(by(0, 0, 0), 1))
		s.Do(push(by(1, 0, 5), 1), put(by(1, 0, 5), 0, 1))
		if !reflect.DeepEqual(held, want) {
			t.Errorf("P0.3: an answer changed behind its call: %v", held)
		}
	}
}

// TestToldListsShareNothing: no list of an answer has room that another one has.
func TestToldListsShareNothing(t *testing.T) {
	s := made(t, someCells()...)
	for i := range someCells() {
		got, want := s.Cells(), someCells()
		scribble(got[i : i+1 : i+1])
		for j, c := range got {
			if j != i && !reflect.DeepEqual(c, want[j]) {
				t.Errorf("P0.3: who writes into cell %d changes cell %d: %v", i, j, c)
			}
		}
	}
}

func TestLoadOfNoCells(t *testing.T) {
	for _, was := range [][]api.Cell{nil, someCells(), farCells()} {
		s := made(t, was...)
		checkLoad(t, "no cells", s, api.OK)
		checkAll(t, "no cells", s)
		s = made(t, was...)
		checkLoad(t, "an empty list", s, api.OK, []api.Cell{}...)
		checkAll(t, "an empty list", s)
		checkEq(t, "no cells", s, New(), true)
		checkDo(t, "behind no cells", s, api.OK, push(by(1, 0, 5), 1))
		checkAll(t, "behind no cells", s, withList(by(1, 0, 5), 1))
	}
}

// TestLoadOfWhatCellsTold: into a new state, and into one that has other things.
func TestLoadOfWhatCellsTold(t *testing.T) {
	from := made(t, someCells()...)
	other := []api.Cell{
		whole(by(0, 0, 0), 5, 6, 7),
		{Key: by(1, 0, 5), Has: true, Value: 70, List: []int64{10, 20, 30}, Dict: fields(0, 1, 1, 1, 2, 1, 3, 1, 4, 1, 5, 1, 6, 1, 7, 1)},
		whole(by(2, 1, 2), 1, 2, 3),
		whole(by(3, 1, 23), 8),
	}
	for _, was := range [][]api.Cell{nil, other, farCells(), someCells(), {withList(by(1, 0, 5), count(0, 100)...)}} {
		s := made(t, was...)
		checkLoad(t, "what Cells told", s, api.OK, from.Cells()...)
		checkAll(t, "what Cells told", s, someCells()...)
		checkEq(t, "what Cells told", s, from, true)
	}
}

// TestLoadIsSeenByTheThree: those that were there ahead of Load, and methods taken ahead of it, see just its cells.
func TestLoadIsSeenByTheThree(t *testing.T) {
	k, old := by(1, 0, 5), by(0, 0, 4)
	s := made(t, whole(old, 1, 2, 3))
	v, l, d := s.Values, s.Lists, s.Dicts
	numberAt, listAt, dictAt := s.Value, s.List, s.Dict
	checkLoad(t, "seen", s, api.OK, whole(k, 9, 8))
	ahead := &State{v, l, d}
	checkAll(t, "the three from ahead of it", ahead, whole(k, 9, 8))
	n, ok := numberAt(k)
	if n != 9 || !ok || !slices.Equal(listAt(k), count(8, 1)) || !slices.Equal(dictAt(k), fields(0, 9, 7, -9)) {
		t.Errorf("P10.1: methods taken ahead of Load: %d, %t, %v, %v", n, ok, listAt(k), dictAt(k))
	}
	if n, ok = numberAt(old); n != 0 || ok || len(listAt(old)) != 0 || len(dictAt(old)) != 0 {
		t.Errorf("P10.1: methods taken ahead of Load see what was: %d, %t, %v, %v", n, ok, listAt(old), dictAt(old))
	}
}

// TestLoadAtTheEdges: cells that are just right.
func TestLoadAtTheEdges(t *testing.T) {
	for _, x := range []struct {
		at string
		cs []api.Cell
	}{
		{"a value of 0", []api.Cell{withValue(by(0, 0, 0), 0)}},
		{"the last key", []api.Cell{withValue(by(3, 1, 23), math.MaxInt64)}},
		{"a group that is not the id's", []api.Cell{withValue(by(3, 1, 0), 1)}},
		{"a hundred", []api.Cell{withList(by(0, 0, 0), count(math.MaxInt64-99, 100)...)}},
		{"one", []api.Cell{withList(by(0, 0, 0), 0)}},
		{"the first field", []api.Cell{withFields(by(0, 0, 0), fields(0, 0)...)}},
		{"the last field", []api.Cell{withFields(by(0, 0, 0), fields(7, 0)...)}},
		{"all fields", []api.Cell{withFields(by(0, 0, 0), fields(0, 9, 1, 8, 2, 7, 3, 6, 4, 5, 5, 4, 6, 3, 7, 2)...)}},
		{"keys by Group", []api.Cell{withValue(by(0, 1, 23), 1), withValue(by(1, 0, 0), 2)}},
		{"keys by Ns", []api.Cell{withValue(by(1, 0, 23), 1), withValue(by(1, 1, 0), 2)}},
		{"keys by Id", []api.Cell{withValue(by(1, 1, 0), 1), withValue(by(1, 1, 1), 2)}},
	} {
		s := made(t, someCells()...)
		checkLoad(t, x.at, s, api.OK, x.cs...)
		checkAll(t, x.at, s, x.cs...)
	}
	s := New()
	checkLoad(t, "empty lists", s, api.OK, api.Cell{Key: by(0, 0, 0), Has: true, List: []int64{}, Dict: []api.Field{}})
	checkAll(t, "empty lists are told as nil", s, withValue(by(0, 0, 0), 0))
}

// illCells are lists of cells that break one rule each.
func illCells() map[string][]api.Cell {
	a, b := by(1, 0, 5), by(1, 0, 9)
	out := map[string][]api.Cell{
		"falling by Id":              {withValue(b, 1), withValue(a, 1)},
		"falling by Ns":              {withValue(by(1, 1, 0), 1), withValue(by(1, 0, 23), 1)},
		"falling by Group":           {withValue(by(1, 0, 0), 1), withValue(by(0, 1, 23), 1)},
		"the same twice":             {withValue(a, 1), withValue(a, 1)},
		"the same, other things":     {withValue(a, 1), withList(a, 1)},
		"falling in the end":         {withValue(by(0, 0, 0), 1), withValue(b, 1), withValue(a, 1)},
		"falling at the beginning":   {withValue(b, 1), withValue(a, 1), withValue(by(2, 0, 0), 1)},
		"nothing":                    {{Key: a}},
		"nothing, empty lists":       {{Key: a, List: []int64{}, Dict: []api.Field{}}},
		"nothing but a Value":        {{Key: a, Value: 1}},
		"a Value without Has":        {{Key: a, Value: 1, List: []int64{1}}},
		"a Value below 0":            {{Key: a, Value: -1, Dict: fields(1, 1)}},
		"the least Value":            {{Key: a, Value: math.MinInt64, List: []int64{1}, Dict: fields(1, 1)}},
		"101":                        {withList(a, count(0, 101)...)},
		"101 and other things":       {{Key: a, Has: true, Value: 1, List: count(0, 101), Dict: fields(1, 1)}},
		"very many":                  {withList(a, count(0, 100000)...)},
		"falling fields":             {withFields(a, fields(3, 1, 2, 1)...)},
		"falling fields in the end":  {withFields(a, fields(0, 1, 5, 1, 7, 1, 6, 1)...)},
		"falling fields, with more":  {{Key: a, Has: true, Value: 1, List: []int64{1}, Dict: fields(7, 1, 0, 1)}},
		"a field twice":              {withFields(a, fields(3, 1, 3, 1)...)},
		"a field twice, other V":     {withFields(a, fields(0, 1, 0, 2)...)},
		"field -1":                   {withFields(a, fields(-1, 1)...)},
		"field -1, then others":      {withFields(a, fields(-1, 1, 0, 1)...)},
		"field 8":                    {withFields(a, fields(8, 1)...)},
		"field 8 behind others":      {withFields(a, fields(0, 1, 7, 1, 8, 1)...)},
		"the greatest field":         {withFields(a, fields(math.MaxInt64, 1)...)},
		"the least field":            {withFields(a, fields(math.MinInt64, 1)...)},
		"field 8, with other things": {{Key: a, Has: true, Value: 1, List: []int64{1}, Dict: fields(8, 1)}},
	}
	for i, k := range illKeys() {
		out["a key that may not be, "+string(rune('a'+i))] = []api.Cell{whole(k, 1, 1)}
	}
	return out
}

// TestLoadOfIllCells: into nothing and into something, by themselves and among cells that are right.
func TestLoadOfIllCells(t *testing.T) {
	first, last := withValue(by(0, 0, 0), 1), withValue(by(3, 1, 23), 1)
	for at, ill := range illCells() {
		for _, was := range [][]api.Cell{nil, someCells()} {
			s := made(t, was...)
			checkLoad(t, at, s, api.ErrForm, ill...)
			checkAll(t, at, s, was...)
			checkLoad(t, at+", one behind", s, api.ErrForm, append(slices.Clone(ill), last)...)
			checkAll(t, at+", one behind", s, was...)
			checkLoad(t, at+", one ahead", s, api.ErrForm, append([]api.Cell{first}, ill...)...)
			checkAll(t, at+", one ahead", s, was...)
		}
	}
}

// TestLoadOfFarCells: what Cells tells of a key that may not be, Load does not take.
func TestLoadOfFarCells(t *testing.T) {
	for _, c := range farCells() {
		want := api.ErrForm
		if slowKeyMay(c.Key) {
			want = api.OK
		}
		checkLoad(t, "a far cell", New(), want, made(t, c).Cells()...)
	}
}

// TestLoadedCellsStayTheCallers: neither changed nor kept, spare room neither.
func TestLoadedCellsStayTheCallers(t *testing.T) {
	for _, give := range []func([]api.Cell) []api.Cell{cloneCells, roomy} {
		in := give(someCells())
		kept := cloneCells(in)
		s := made(t, farCells()...)
		checkLoad(t, "handed in", s, api.OK, in...)
		checkDo(t, "handed in, more", s, api.OK, push(by(2, 1, 2), 4), put(by(1, 0, 9), 5, 55), put(by(1, 0, 9), 4, 45), set(by(0, 0, 4), 1))
		if !reflect.DeepEqual(in, kept) {
			t.Errorf("P0.3: what was handed in changed: %v", in)
		}
		for i, c := range in {
			for _, n := range c.List[len(c.List):cap(c.List)] {
				if n != 0 {
					t.Errorf("P0.3: the spare room of list %d changed", i)
				}
			}
			for _, field := range c.Dict[len(c.Dict):cap(c.Dict)] {
				if field != (api.Field{}) {
					t.Errorf("P0.3: the spare room of dictionary %d changed", i)
				}
			}
		}
		want := someCells()
		want[0].Value = 1
		want[3].Dict = fields(4, 45, 5, 55)
		want[4].List = []int64{3, 4}
		scribble(in)
		checkAll(t, "handed in, written over", s, want...)
	}
}

// TestOneListLoadedTwice: two keys, and two states, that were given one list have each their own.
func TestOneListLoadedTwice(t *testing.T) {
	a, b := by(0, 0, 0), by(0, 0, 4)
	ns, fs := append(slices.Grow([]int64{}, 9), 1, 2), append(slices.Grow([]api.Field{}, 9), fields(1, 1)...)
	cells := []api.Cell{{Key: a, List: ns, Dict: fs}, {Key: b, List: ns, Dict: fs}}
	s, other := New(), New()
	checkLoad(t, "twice", s, api.OK, cells...)
	checkLoad(t, "twice", other, api.OK, cells...)
	s.Push(a, 3)
	s.PutField(a, 1, 9)
	s.PutField(a, 2, 2)
	s.Push(b, 4)
	checkAll(t, "the one", s, api.Cell{Key: a, List: count(1, 3), Dict: fields(1, 9, 2, 2)}, api.Cell{Key: b, List: []int64{1, 2, 4}, Dict: fields(1, 1)})
	checkAll(t, "the other", other, api.Cell{Key: a, List: count(1, 2), Dict: fields(1, 1)}, api.Cell{Key: b, List: count(1, 2), Dict: fields(1, 1)})
}

// turns are things of all kinds that are done to a state with someCells, each of which is seen.
func turns() map[string]func(s *State) {
	k := by(1, 0, 5)
	return map[string]func(s *State){
		"another value":               func(s *State) { s.Set(k, 8) },
		"a value of 0":                func(s *State) { s.Set(by(1, 0, 9), 0) },
		"a value at a new key":        func(s *State) { s.Set(by(0, 0, 8), 0) },
		"a value at a far key":        func(s *State) { s.Set(by(9, -9, 9), 0) },
		"no value":                    func(s *State) { s.Unset(k) },
		"no value of 0":               func(s *State) { s.Unset(by(0, 0, 4)) },
		"a number more":               func(s *State) { s.Push(k, 0) },
		"a number more of one":        func(s *State) { s.Push(by(2, 1, 2), 3) },
		"a list at a key without one": func(s *State) { s.Push(by(1, 0, 9), 0) },
		"a list at a new key":         func(s *State) { s.Push(by(0, 0, 0), 0) },
		"another order":               func(s *State) { s.Clear(k); s.Push(k, 2, 1) },
		"no list":                     func(s *State) { s.Clear(k) },
		"another field's number":      func(s *State) { s.PutField(k, 3, 1) },
		"a field more":                func(s *State) { s.PutField(k, 6, 0) },
		"another field":               func(s *State) { s.CutField(by(1, 0, 9), 4); s.PutField(by(1, 0, 9), 5, 44) },
		"a field at a new key":        func(s *State) { s.PutField(by(3, 1, 23), 0, 0) },
		"no field of 0":               func(s *State) { s.CutField(k, 3) },
		"no field":                    func(s *State) { s.CutField(by(1, 0, 9), 4) },
		"another key":                 func(s *State) { s.Clear(by(2, 1, 2)); s.Push(by(2, 1, 6), 3) },
		"another namespace":           func(s *State) { s.Clear(by(2, 1, 2)); s.Push(by(2, 0, 2), 3) },
		"another group":               func(s *State) { s.Clear(by(2, 1, 2)); s.Push(by(3, 1, 2), 3) },
		"one of another kind":         func(s *State) { s.Clear(by(2, 1, 2)); s.Set(by(2, 1, 2), 3) },
		"changes":                     func(s *State) { s.Do(fineMuts()...) },
		"no cells":                    func(s *State) { s.Load() },
		"other cells":                 func(s *State) { s.Load(someCells()[1:]...) },
	}
}

// TestEqOfOneThing: states that differ in one thing alone, and that a copy's turn is not the other's.
func TestEqOfOneThing(t *testing.T) {
	for at, turn := range turns() {
		s := made(t, someCells()...)
		c := s.Copy()
		checkEq(t, at+", a copy", s, c, true)
		turn(c)
		checkEq(t, at+", of the copy", s, c, false)
		checkAll(t, at+", of the copy", s, someCells()...)
		c = s.Copy()
		turn(s)
		checkEq(t, at+", of the one copied", s, c, false)
		checkAll(t, at+", of the one copied", c, someCells()...)
		turn(c)
		checkEq(t, at+", of both", s, c, true)
	}
}

func TestEqOfTheSame(t *testing.T) {
	a, b := made(t, someCells()...), New()
	checkEq(t, "itself", a, a, true)
	checkEq(t, "something and nothing", a, b, false)
	back := someCells()
	slices.Reverse(back)
	checkEq(t, "in another order", a, made(t, back...), true)
	checkLoad(t, "the same", b, api.OK, someCells()...)
	checkEq(t, "loaded", a, b, true)
	k := by(1, 0, 13)
	checkDo(t, "there and back", b, api.OK, set(k, 1), push(k, 1), put(k, 1, 1), del(k), clean(k), cut(k, 1))
	checkEq(t, "there and back", a, b, true)
	checkEq(t, "far keys", made(t, farCells()...), made(t, farCells()...), true)
	checkEq(t, "far keys, one less", made(t, farCells()...), made(t, farCells()[1:]...), false)
	checkEq(t, "far keys, the last one less", made(t, farCells()...), made(t, farCells()[:124]...), false)
	checkAll(t, "asked", a, someCells()...)
}

func TestEqOfNil(t *testing.T) {
	checkEq(t, "nil and nil", nil, nil, true)
	checkEq(t, "nil and a new one", nil, New(), true)
	checkEq(t, "nil and something", nil, made(t, someCells()...), false)
	for _, c := range []api.Cell{withValue(api.Key{}, 0), withList(api.Key{}, 0), withFields(api.Key{}, fields(0, 0)...)} {
		checkEq(t, "nil and one thing", nil, made(t, c), false)
		s := made(t, c)
		s.Load()
		checkEq(t, "nil and what has gone", nil, s, true)
	}
}

func TestCopy(t *testing.T) {
	for _, cells := range [][]api.Cell{nil, someCells(), farCells(), {withList(by(0, 0, 0), count(0, 100)...)}} {
		s := made(t, cells...)
		c := s.Copy()
		if c == nil || c == s || c.Values == s.Values || c.Lists == s.Lists || c.Dicts == s.Dicts {
			t.Fatal("P10.1: a copy that is no other one")
		}
		checkAll(t, "a copy", c, cells...)
		checkAll(t, "a copy of a copy", c.Copy(), cells...)
		for _, x := range cells {
			c.Unset(x.Key)
			c.Clear(x.Key)
			for f := range int64(8) {
				c.CutField(x.Key, f)
			}
		}
		checkAll(t, "a copy, all gone", c)
		checkAll(t, "copied", s, cells...)
	}
}

// TestCopyHasRoomOfItsOwn: numbers and fields that both put behind what they have in common.
func TestCopyHasRoomOfItsOwn(t *testing.T) {
	k := by(2, 0, 6)
	for n := 1; n < 100; n++ {
		s := New()
		for _, m := range pushes(k, 0, n) {
			s.Do(m, put(k, m.V%7, m.V))
		}
		c := s.Copy()
		wasDict := s.Dict(k)
		s.Do(push(k, 1000), put(k, 7, 1000), put(k, 0, 1000))
		c.Do(push(k, 2000), put(k, 7, 2000), put(k, 0, 2000))
		for x, more := range map[*State]int64{s: 1000, c: 2000} {
			want := append(slices.Clone(wasDict), api.Field{F: 7, V: more})
			want[0].V = more
			checkAll(t, "both go on", x, api.Cell{Key: k, List: append(count(0, n), more), Dict: want})
		}
	}
}

// anyCells are cells that are right about as often as not: of few keys, or those that are there with something done to them.
func anyCells(r *rand.Rand, there []api.Cell) []api.Cell {
	out := cloneCells(there)
	for range r.Intn(3) {
		i := r.Intn(len(out) + 1)
		k := anyKey(r)
		out = slices.Insert(out, i, api.Cell{Key: k, Has: r.Intn(2) > 0, List: count(1, r.Intn(103)), Dict: fields(r.Int63n(4)-1, 1, r.Int63n(6)+3, 2)})
	}
	if r.Intn(2) == 0 {
		slices.SortFunc(out, func(a, b api.Cell) int {
			switch {
			case before(a.Key, b.Key):
				return -1
			case before(b.Key, a.Key):
				return 1
			}
			return 0
		})
		out = slices.CompactFunc(out, func(a, b api.Cell) bool { return a.Key == b.Key })
	}
	if len(out) > 0 && r.Intn(4) == 0 {
		out = slices.Delete(out, 0, r.Intn(len(out)))
	}
	return out
}
