package state

import (
	"math"
	"math/rand"
	"reflect"
	"slices"
	"testing"

	"remembrancer/api"
	"remembrancer/dict"
	"remembrancer/list"
	"remembrancer/mut"
	"remembrancer/value"
)

// Each of the three has its methods promoted: a State that has lost one does not compile here.
var _ interface {
	Set(k api.Key, n int64)
	Unset(k api.Key) bool
	Value(k api.Key) (int64, bool)
	ValueKeys() []api.Key
	Push(k api.Key, ns ...int64) api.Errno
	Clear(k api.Key) int
	List(k api.Key) []int64
	ListKeys() []api.Key
	PutField(k api.Key, f, n int64) api.Errno
	CutField(k api.Key, f int64) bool
	Field(k api.Key, f int64) (int64, bool)
	Dict(k api.Key) []api.Field
	DictKeys() []api.Key
} = (*State)(nil)

// by is a key of any numbers.
func by(group, ns, id int) api.Key { return api.Key{Group: group, Ns: ns, Id: id} }

// key is a key that KeyOf gives.
func key(t *testing.T, source, k, ns int) api.Key {
	t.Helper()
	out, ok := mut.KeyOf(source, k, ns)
	if !ok {
		t.Fatalf("no key of %d, %d, %d", source, k, ns)
	}
	return out
}

// The changes, as the tests write them.
func set(k api.Key, v int64) api.Mut    { return api.Mut{Kind: api.MSet, Key: k, V: v} }
func del(k api.Key) api.Mut             { return api.Mut{Kind: api.MDel, Key: k} }
func push(k api.Key, v int64) api.Mut   { return api.Mut{Kind: api.MPush, Key: k, V: v} }
func clean(k api.Key) api.Mut           { return api.Mut{Kind: api.MClear, Key: k} }
func put(k api.Key, f, v int64) api.Mut { return api.Mut{Kind: api.MPut, Key: k, F: f, V: v} }
func cut(k api.Key, f int64) api.Mut    { return api.Mut{Kind: api.MCut, Key: k, F: f} }

// count is n numbers, each another one, from first on.
func count(first int64, n int) []int64 {
	var out []int64
	for i := range n {
		out = append(out, first+int64(i))
	}
	return out
}

// pushes are changes that put n numbers behind k's list, from first on.
func pushes(k api.Key, first int64, n int) []api.Mut {
	var out []api.Mut
	for _, v := range count(first, n) {
		out = append(out, push(k, v))
	}
	return out
}

// fields are some of a dictionary: each F and its V, one behind the other.
func fields(pairs ...int64) []api.Field {
	var out []api.Field
	for i := 0; i+1 < len(pairs); i += 2 {
		out = append(out, api.Field{F: pairs[i], V: pairs[i+1]})
	}
	return out
}

// The cells with one thing alone, as the tests write them.
func withValue(k api.Key, v int64) api.Cell          { return api.Cell{Key: k, Has: true, Value: v} }
func withList(k api.Key, ns ...int64) api.Cell       { return api.Cell{Key: k, List: ns} }
func withFields(k api.Key, fs ...api.Field) api.Cell { return api.Cell{Key: k, Dict: fs} }

// whole is a cell with all three.
func whole(k api.Key, v int64, ns ...int64) api.Cell {
	return api.Cell{Key: k, Has: true, Value: v, List: ns, Dict: fields(0, v, 7, -v)}
}

// numbers are those at the edges.
func numbers() []int64 { return []int64{0, 1, -1, math.MaxInt64, math.MinInt64, 1 << 32} }

// cloneCells is cs in memory of its own.
func cloneCells(cs []api.Cell) []api.Cell {
	out := slices.Clone(cs)
	for i := range out {
		out[i].List, out[i].Dict = slices.Clone(out[i].List), slices.Clone(out[i].Dict)
	}
	return out
}

// someCells are cells of keys that have one, two and all of the three, by rising keys.
func someCells() []api.Cell {
	return []api.Cell{
		withValue(by(0, 0, 4), 0),
		{Key: by(0, 1, 0), Has: true, Value: -5, List: []int64{3, 3, 0}},
		{Key: by(1, 0, 5), Has: true, Value: 7, List: []int64{1, 2}, Dict: fields(0, 10, 3, 0, 7, -1)},
		withFields(by(1, 0, 9), fields(4, 44)...),
		withList(by(2, 1, 2), 3),
		{Key: by(3, 0, 23), List: []int64{0}, Dict: fields(1, 1)},
		{Key: by(3, 1, 7), Has: true, Value: math.MinInt64, Dict: fields(6, math.MaxInt64)},
	}
}

// made is a state with these cells, put in by the methods of the three alone.
func made(t *testing.T, cs ...api.Cell) *State {
	t.Helper()
	s := New()
	for _, c := range cs {
		if c.Has {
			s.Set(c.Key, c.Value)
		}
		if e := s.Push(c.Key, c.List...); e != api.OK {
			t.Fatalf("made: Push %d", e)
		}
		for _, field := range c.Dict {
			if e := s.PutField(c.Key, field.F, field.V); e != api.OK {
				t.Fatalf("made: PutField %d", e)
			}
		}
	}
	return s
}

// checkCells holds what Cells tells against want, lists and dictionaries that are nil against nil too.
func checkCells(t *testing.T, at string, s *State, want ...api.Cell) {
	t.Helper()
	got := s.Cells()
	if len(got) == 0 && len(want) == 0 {
		return
	}
	if !reflect.DeepEqual(got, want) {
		t.Errorf("P10.1, %s: Cells %v, not %v", at, got, want)
	}
}

// checkParts holds what the methods of the three tell against want.
func checkParts(t *testing.T, at string, s *State, want ...api.Cell) {
	t.Helper()
	var values, lists, dicts []api.Key
	for _, c := range want {
		if c.Has {
			values = append(values, c.Key)
		}
		if len(c.List) > 0 {
			lists = append(lists, c.Key)
		}
		if len(c.Dict) > 0 {
			dicts = append(dicts, c.Key)
		}
		if n, ok := s.Value(c.Key); n != c.Value || ok != c.Has {
			t.Errorf("P10.1, %s: Value of %v: %d, %t, not %d, %t", at, c.Key, n, ok, c.Value, c.Has)
		}
		if got := s.List(c.Key); !slices.Equal(got, c.List) {
			t.Errorf("P10.1, %s: List of %v: %v, not %v", at, c.Key, got, c.List)
		}
		if got := s.Dict(c.Key); !slices.Equal(got, c.Dict) {
			t.Errorf("P10.1, %s: Dict of %v: %v, not %v", at, c.Key, got, c.Dict)
		}
	}
	if got := s.ValueKeys(); !slices.Equal(got, values) {
		t.Errorf("P10.1, %s: ValueKeys %v, not %v", at, got, values)
	}
	if got := s.ListKeys(); !slices.Equal(got, lists) {
		t.Errorf("P10.1, %s: ListKeys %v, not %v", at, got, lists)
	}
	if got := s.DictKeys(); !slices.Equal(got, dicts) {
		t.Errorf("P10.1, %s: DictKeys %v, not %v", at, got, dicts)
	}
}

// checkAll asks for the cells, and for all that the three tell.
func checkAll(t *testing.T, at string, s *State, want ...api.Cell) {
	t.Helper()
	checkCells(t, at, s, want...)
	checkParts(t, at, s, want...)
}

func checkDo(t *testing.T, at string, s *State, want api.Errno, ms ...api.Mut) {
	t.Helper()
	if got := s.Do(ms...); got != want {
		t.Errorf("P10.1, %s: Do of %d changes: %d, not %d", at, len(ms), got, want)
	}
}

// checkEq asks both ways round.
func checkEq(t *testing.T, at string, a, b *State, want bool) {
	t.Helper()
	if got := Eq(a, b); got != want {
		t.Errorf("P10.1, %s: Eq %t", at, got)
	}
	if got := Eq(b, a); got != want {
		t.Errorf("P10.1, %s: Eq the other way round %t", at, got)
	}
}

func TestNewHasNothing(t *testing.T) {
	s := New()
	if s == nil || s.Values == nil || s.Lists == nil || s.Dicts == nil {
		t.Fatalf("P10.1: New: %v", s)
	}
	checkAll(t, "new", s)
	other := New()
	checkDo(t, "the other", other, api.OK, set(by(0, 0, 0), 1), push(by(0, 0, 0), 2), put(by(0, 0, 0), 3, 4))
	checkAll(t, "the one", s)
	checkEq(t, "two new ones, one with something", s, other, false)
	checkEq(t, "two new ones", New(), New(), true)
}

// TestMethodsSeeWhatDoDid: by the state, by the three themselves, and by methods that were taken ahead of it.
func TestMethodsSeeWhatDoDid(t *testing.T) {
	k := key(t, 1, 1, 0)
	s := New()
	v, l, d := s.Values, s.Lists, s.Dicts
	numberAt, listAt, fieldAt := s.Value, s.List, s.Field
	checkDo(t, "something", s, api.OK, set(k, 9), push(k, 1), push(k, 2), put(k, 3, 33))
	checkParts(t, "something", s, api.Cell{Key: k, Has: true, Value: 9, List: count(1, 2), Dict: fields(3, 33)})
	if s.Values != v || s.Lists != l || s.Dicts != d {
		t.Error("P10.1: Do put others in place of the three")
	}
	n, ok := numberAt(k)
	f, there := fieldAt(k, 3)
	if n != 9 || !ok || f != 33 || !there || !slices.Equal(listAt(k), count(1, 2)) {
		t.Errorf("P10.1: methods taken ahead of Do: %d, %t, %d, %t, %v", n, ok, f, there, listAt(k))
	}
	checkDo(t, "all gone", s, api.OK, del(k), clean(k), cut(k, 3))
	checkAll(t, "all gone", s)
}

// TestDoSeesWhatMethodsDid: so do Cells and Eq.
func TestDoSeesWhatMethodsDid(t *testing.T) {
	k := key(t, 2, 4, 1)
	s, same := New(), New()
	s.Set(k, 4)
	s.Push(k, count(0, 99)...)
	s.PutField(k, 6, -6)
	checkCells(t, "by methods", s, api.Cell{Key: k, Has: true, Value: 4, List: count(0, 99), Dict: fields(6, -6)})
	checkDo(t, "the same by changes", same, api.OK, append(pushes(k, 0, 99), set(k, 4), put(k, 6, -6))...)
	checkEq(t, "by methods and by changes", s, same, true)
	checkDo(t, "one too many", s, api.ErrFull, push(k, 99), push(k, 100))
	checkDo(t, "the hundredth", s, api.OK, push(k, 99))
	s.Clear(k)
	checkDo(t, "behind Clear", s, api.OK, pushes(k, 7, 100)...)
	s.Unset(k)
	s.CutField(k, 6)
	checkAll(t, "by both", s, withList(k, count(7, 100)...))
	checkEq(t, "another one", s, same, false)
}

// TestPartsOfOnesOwn: a state that is put together by hand works on what it was given.
func TestPartsOfOnesOwn(t *testing.T) {
	k := key(t, 0, 3, 0)
	v, l, d := value.New(), list.New(), dict.New()
	v.Set(k, 1)
	s := &State{Values: v, Lists: l, Dicts: d}
	checkDo(t, "by hand", s, api.OK, push(k, 2), put(k, 0, 3))
	checkAll(t, "by hand", s, api.Cell{Key: k, Has: true, Value: 1, List: count(2, 1), Dict: fields(0, 3)})
	if !slices.Equal(l.List(k), count(2, 1)) || !slices.Equal(d.Dict(k), fields(0, 3)) {
		t.Errorf("P10.1: what was handed in has %v, %v", l.List(k), d.Dict(k))
	}
}

func TestDoOfNothing(t *testing.T) {
	s := New()
	checkDo(t, "nothing, new", s, api.OK)
	checkAll(t, "nothing, new", s)
	s = made(t, someCells()...)
	checkDo(t, "nothing", s, api.OK)
	checkDo(t, "an empty list", s, api.OK, []api.Mut{}...)
	checkAll(t, "nothing", s, someCells()...)
}

// TestDoOfEachKind: on nothing, and on something.
func TestDoOfEachKind(t *testing.T) {
	k := key(t, 1, 5, 0)
	full := api.Cell{Key: k, Has: true, Value: 1, List: []int64{2, 3}, Dict: fields(0, 4, 5, 6)}
	for _, n := range numbers() {
		for _, x := range []struct {
			m      api.Mut
			new    []api.Cell
			behind api.Cell
		}{
			{set(k, n), []api.Cell{withValue(k, n)}, api.Cell{Key: k, Has: true, Value: n, List: full.List, Dict: full.Dict}},
			{del(k), nil, api.Cell{Key: k, List: full.List, Dict: full.Dict}},
			{push(k, n), []api.Cell{withList(k, n)}, api.Cell{Key: k, Has: true, Value: 1, List: []int64{2, 3, n}, Dict: full.Dict}},
			{clean(k), nil, api.Cell{Key: k, Has: true, Value: 1, Dict: full.Dict}},
			{put(k, 3, n), []api.Cell{withFields(k, fields(3, n)...)}, api.Cell{Key: k, Has: true, Value: 1, List: full.List, Dict: fields(0, 4, 3, n, 5, 6)}},
			{put(k, 5, n), []api.Cell{withFields(k, fields(5, n)...)}, api.Cell{Key: k, Has: true, Value: 1, List: full.List, Dict: fields(0, 4, 5, n)}},
			{cut(k, 5), nil, api.Cell{Key: k, Has: true, Value: 1, List: full.List, Dict: fields(0, 4)}},
		} {
			s := New()
			checkDo(t, "on nothing", s, api.OK, x.m)
			checkAll(t, "on nothing", s, x.new...)
			s = made(t, full)
			checkDo(t, "on something", s, api.OK, x.m)
			checkAll(t, "on something", s, x.behind)
		}
	}
}

// TestDoOneBehindTheOther: where another order would lead elsewhere.
func TestDoOneBehindTheOther(t *testing.T) {
	a, b := key(t, 0, 1, 0), key(t, 0, 1, 1)
	for _, x := range []struct {
		at   string
		ms   []api.Mut
		want []api.Cell
	}{
		{"set twice", []api.Mut{set(a, 1), set(a, 2)}, []api.Cell{withValue(a, 2)}},
		{"set, then gone", []api.Mut{set(a, 1), del(a)}, nil},
		{"gone, then set", []api.Mut{del(a), set(a, 1)}, []api.Cell{withValue(a, 1)}},
		{"pushed", []api.Mut{push(a, 2), push(a, 1), push(a, 2)}, []api.Cell{withList(a, 2, 1, 2)}},
		{"pushed, then clear", []api.Mut{push(a, 1), push(a, 2), clean(a)}, nil},
		{"clear between", []api.Mut{push(a, 1), clean(a), push(a, 2)}, []api.Cell{withList(a, 2)}},
		{"a field twice", []api.Mut{put(a, 3, 1), put(a, 3, 2)}, []api.Cell{withFields(a, fields(3, 2)...)}},
		{"falling fields", []api.Mut{put(a, 7, 1), put(a, 3, 2), put(a, 0, 3)}, []api.Cell{withFields(a, fields(0, 3, 3, 2, 7, 1)...)}},
		{"a field, then cut", []api.Mut{put(a, 3, 1), put(a, 4, 2), cut(a, 3)}, []api.Cell{withFields(a, fields(4, 2)...)}},
		{"cut, then a field", []api.Mut{cut(a, 3), put(a, 3, 1)}, []api.Cell{withFields(a, fields(3, 1)...)}},
		{"each kind leaves the others", []api.Mut{set(a, 1), push(a, 2), put(a, 3, 4), del(a), set(a, 5), clean(a), push(a, 6), cut(a, 3), put(a, 7, 8)},
			[]api.Cell{{Key: a, Has: true, Value: 5, List: []int64{6}, Dict: fields(7, 8)}}},
		{"two keys", []api.Mut{set(b, 1), push(a, 2), push(b, 3), clean(a), set(a, 4), del(b)}, []api.Cell{withValue(a, 4), withList(b, 3)}},
	} {
		s := New()
		checkDo(t, x.at, s, api.OK, x.ms...)
		checkAll(t, x.at, s, x.want...)
		one := New()
		for _, m := range x.ms {
			checkDo(t, x.at+", one by one", one, api.OK, m)
		}
		checkEq(t, x.at+", one by one", s, one, true)
	}
}

func TestDoAtEachKey(t *testing.T) {
	s := New()
	var ms []api.Mut
	var want []api.Cell
	for group := range 4 {
		for ns := range 2 {
			for id := range 24 {
				k := by(group, ns, id)
				n := int64(1 + id + 24*ns + 48*group)
				ms = append(ms, put(k, 7, -n), push(k, 2*n), set(k, n), put(k, 0, n))
				want = append(want, whole(k, n, 2*n))
			}
		}
	}
	slices.Reverse(ms)
	checkDo(t, "each key", s, api.OK, ms...)
	checkAll(t, "each key", s, want...)
}

func TestDoOfWhatIsNotThere(t *testing.T) {
	for _, k := range []api.Key{by(0, 0, 0), by(1, 0, 5), by(2, 1, 2), by(3, 1, 23)} {
		s := New()
		checkDo(t, "on nothing", s, api.OK, del(k), clean(k), cut(k, 0), cut(k, 7))
		checkAll(t, "on nothing", s)
	}
	s := made(t, someCells()...)
	never, list, dict := by(1, 1, 1), by(2, 1, 2), by(1, 0, 9)
	checkDo(t, "a key that has nothing", s, api.OK, del(never), clean(never), cut(never, 4))
	checkDo(t, "a list alone", s, api.OK, del(list), cut(list, 4))
	checkDo(t, "a dictionary alone", s, api.OK, del(dict), clean(dict), cut(dict, 3))
	checkDo(t, "a value alone", s, api.OK, clean(by(0, 0, 4)), cut(by(0, 0, 4), 0))
	checkAll(t, "nothing was there", s, someCells()...)
}

// illMuts are changes none of which may be, each for one reason alone.
func illMuts() []api.Mut {
	k := by(1, 0, 5)
	out := []api.Mut{
		{}, {Kind: 0, Key: k}, {Kind: -1, Key: k}, {Kind: 7, Key: k}, {Kind: math.MaxInt, Key: k}, {Kind: math.MinInt, Key: k},
		{Kind: api.MSet, Key: k, F: 1}, {Kind: api.MPush, Key: k, F: -1}, {Kind: api.MDel, Key: k, F: 3}, {Kind: api.MClear, Key: k, F: 7},
		{Kind: api.MDel, Key: k, V: 1}, {Kind: api.MClear, Key: k, V: -1}, {Kind: api.MCut, Key: k, F: 3, V: 1},
		put(k, -1, 0), put(k, 8, 0), put(k, math.MaxInt64, 0), cut(k, -1), cut(k, 8), cut(k, math.MinInt64),
	}
	for _, far := range illKeys() {
		out = append(out, set(far, 0), del(far), push(far, 0), clean(far), put(far, 0, 0), cut(far, 0))
	}
	return out
}

// illKeys are keys none of which may be, each for one of its numbers alone.
func illKeys() []api.Key {
	return []api.Key{
		by(-1, 0, 5), by(4, 0, 5), by(math.MaxInt, 0, 5), by(math.MinInt, 0, 5),
		by(1, -1, 5), by(1, 2, 5), by(1, math.MaxInt, 5), by(1, math.MinInt, 5),
		by(1, 0, -1), by(1, 0, 24), by(1, 0, math.MaxInt), by(1, 0, math.MinInt),
	}
}

// fineMuts are changes that may be, all of which would be seen.
func fineMuts() []api.Mut {
	k := by(1, 0, 5)
	return []api.Mut{set(k, 100), push(k, 101), put(k, 3, 102), clean(by(2, 1, 2)), cut(by(1, 0, 9), 4), del(by(0, 0, 4)), push(by(0, 0, 0), 1)}
}

func TestDoOfIllChanges(t *testing.T) {
	for i, ill := range illMuts() {
		s := made(t, someCells()...)
		checkDo(t, "by itself", s, api.ErrForm, ill)
		checkAll(t, "by itself", s, someCells()...)
		for at := range len(fineMuts()) + 1 {
			checkDo(t, "at a place", s, api.ErrForm, slices.Insert(fineMuts(), at, ill)...)
			checkDo(t, "twice", s, api.ErrForm, slices.Insert(fineMuts(), at, ill, ill)...)
		}
		checkAll(t, "all or none", s, someCells()...)
		if t.Failed() {
			t.Fatalf("the change is %d: %v", i, ill)
		}
	}
	s := made(t, someCells()...)
	checkDo(t, "without it", s, api.OK, fineMuts()...)
	if Eq(s, made(t, someCells()...)) {
		t.Error("the fine changes would not be seen")
	}
}

// TestDoOfAHundred: as many as there is room for, at each length that a list has ahead of it, and one more.
func TestDoOfAHundred(t *testing.T) {
	k := key(t, 2, 0, 0)
	for have := range 101 {
		s := made(t, withList(k, count(0, have)...))
		was := s.Cells()
		checkDo(t, "one too many", s, api.ErrFull, pushes(k, 500, 101-have)...)
		checkCells(t, "one too many", s, was...)
		checkDo(t, "many too many", s, api.ErrFull, pushes(k, 500, 300)...)
		checkCells(t, "many too many", s, was...)
		checkDo(t, "all it has room for", s, api.OK, pushes(k, int64(have), 100-have)...)
		checkAll(t, "all it has room for", s, withList(k, count(0, 100)...))
		checkDo(t, "full", s, api.ErrFull, push(k, 1))
		checkDo(t, "full, another key", s, api.OK, push(by(k.Group, k.Ns, k.Id+1), 1))
		checkDo(t, "full, another namespace", s, api.OK, push(by(k.Group, 1, k.Id), 1))
		checkDo(t, "full, other things", s, api.OK, set(k, 1), put(k, 1, 1), del(k), cut(k, 1))
		checkAll(t, "full", s, withList(k, count(0, 100)...), withList(by(k.Group, k.Ns, k.Id+1), 1), withList(by(k.Group, 1, k.Id), 1))
	}
}

// TestDoOfOneTooManyAtAPlace: nothing of any of them is done, wherever it stands among changes of other things.
func TestDoOfOneTooManyAtAPlace(t *testing.T) {
	k := by(3, 0, 11)
	cells := slices.Insert(someCells(), 5, withList(k, count(0, 100)...))
	for at := range len(fineMuts()) + 1 {
		s := made(t, cells...)
		checkDo(t, "at a place", s, api.ErrFull, slices.Insert(fineMuts(), at, push(k, 1))...)
		checkAll(t, "at a place", s, cells...)
		checkDo(t, "a clear behind it", s, api.ErrFull, append(slices.Insert(fineMuts(), at, push(k, 1)), clean(k))...)
		checkDo(t, "a clear just behind it", s, api.ErrFull, slices.Insert(fineMuts(), at, push(k, 1), clean(k), push(k, 2))...)
		checkDo(t, "another's clear ahead of it", s, api.ErrFull, slices.Insert(fineMuts(), at, clean(by(3, 1, 11)), push(k, 1))...)
		checkAll(t, "all or none", s, cells...)
		checkDo(t, "a clear ahead of it", s, api.OK, slices.Insert(fineMuts(), at, clean(k), push(k, 1))...)
		if got := s.List(k); !slices.Equal(got, count(1, 1)) {
			t.Errorf("P10.1: List behind a clear ahead: %v", got)
		}
		if n, ok := s.Value(by(1, 0, 5)); n != 100 || !ok {
			t.Errorf("P10.1: Value behind a clear ahead: %d, %t", n, ok)
		}
	}
}

// TestDoOfManyClears: what a list has counts at each place, behind several clears too.
func TestDoOfManyClears(t *testing.T) {
	k := by(0, 1, 4)
	s := made(t, withList(k, count(0, 60)...))
	fill := slices.Concat(pushes(k, 60, 40), []api.Mut{clean(k)}, pushes(k, 200, 100), []api.Mut{clean(k), clean(k)}, pushes(k, 300, 100))
	checkDo(t, "one too many in the end", s, api.ErrFull, append(slices.Clone(fill), push(k, 1))...)
	checkDo(t, "one too many in the middle", s, api.ErrFull, slices.Insert(slices.Clone(fill), 141, push(k, 1))...)
	checkDo(t, "one too many at the beginning", s, api.ErrFull, slices.Insert(slices.Clone(fill), 40, push(k, 1))...)
	checkAll(t, "one too many", s, withList(k, count(0, 60)...))
	checkDo(t, "full three times", s, api.OK, fill...)
	checkAll(t, "full three times", s, withList(k, count(300, 100)...))
}

// TestDoOfBothErrors: ErrForm is the one that is told, wherever the two stand.
func TestDoOfBothErrors(t *testing.T) {
	k := by(1, 0, 13)
	s := made(t, withList(k, count(0, 100)...))
	for _, ill := range illMuts() {
		checkDo(t, "the long list first", s, api.ErrForm, set(k, 1), push(k, 1), set(k, 2), ill, set(k, 3))
		checkDo(t, "the ill one first", s, api.ErrForm, set(k, 1), ill, set(k, 2), push(k, 1), set(k, 3))
		checkDo(t, "with a clear", s, api.ErrForm, push(k, 1), clean(k), ill)
	}
	checkAll(t, "both", s, withList(k, count(0, 100)...))
}

// TestDoLeavesItsChanges: what is handed in is neither changed nor kept, its spare room neither.
func TestDoLeavesItsChanges(t *testing.T) {
	k := by(1, 0, 5)
	all := []api.Mut{set(k, 1), push(k, 2), put(k, 3, 4), set(k, 5), set(k, 6)}
	room := slices.Clone(all)
	s := New()
	checkDo(t, "handed in", s, api.OK, room[:3]...)
	if !slices.Equal(room, all) {
		t.Errorf("P0.3: Do makes %v of the changes", room)
	}
	for i := range room {
		room[i] = del(k)
	}
	checkAll(t, "handed in, written over", s, api.Cell{Key: k, Has: true, Value: 1, List: count(2, 1), Dict: fields(3, 4)})
}

func TestNilState(t *testing.T) {
	var s *State
	k := by(1, 0, 5)
	checkDo(t, "nil", s, api.ErrOff)
	checkDo(t, "nil", s, api.ErrOff, fineMuts()...)
	checkDo(t, "nil, an ill change", s, api.ErrOff, api.Mut{})
	checkDo(t, "nil, a long list", s, api.ErrOff, pushes(k, 0, 101)...)
	checkLoad(t, "nil", s, api.ErrOff)
	checkLoad(t, "nil", s, api.ErrOff, someCells()...)
	checkLoad(t, "nil, an ill cell", s, api.ErrOff, api.Cell{})
	if got := s.Cells(); got != nil {
		t.Errorf("P10.1: Cells of nil: %v", got)
	}
	a, b := s.Copy(), s.Copy()
	if a == nil || b == nil {
		t.Fatal("P10.1: Copy of nil is nil")
	}
	checkAll(t, "a copy of nil", a)
	checkDo(t, "a copy of nil", a, api.OK, set(k, 1), push(k, 2), put(k, 3, 4))
	checkAll(t, "another copy of nil", b)
	checkAll(t, "a copy of nil, with something", a, api.Cell{Key: k, Has: true, Value: 1, List: count(2, 1), Dict: fields(3, 4)})
}

// TestMissingParts: a state that New did not make is one of nothing as far as parts are missing, and takes all the same.
func TestMissingParts(t *testing.T) {
	for missing := range 8 {
		less := func() *State {
			s := New()
			if missing&1 > 0 {
				s.Values = nil
			}
			if missing&2 > 0 {
				s.Lists = nil
			}
			if missing&4 > 0 {
				s.Dicts = nil
			}
			return s
		}
		checkCells(t, "parts missing", less())
		checkEq(t, "parts missing", less(), nil, true)
		checkAll(t, "a copy, parts missing", less().Copy())
		s := less()
		checkDo(t, "parts missing", s, api.ErrForm, api.Mut{})
		checkDo(t, "parts missing", s, api.ErrFull, pushes(by(0, 0, 0), 0, 101)...)
		checkLoad(t, "parts missing", s, api.ErrForm, api.Cell{})
		checkDo(t, "parts missing", s, api.OK)
		s = less()
		checkDo(t, "parts missing", s, api.OK, set(by(0, 0, 0), 1), push(by(0, 0, 0), 2), put(by(0, 0, 0), 3, 4))
		checkAll(t, "parts missing, done", s, api.Cell{Key: by(0, 0, 0), Has: true, Value: 1, List: count(2, 1), Dict: fields(3, 4)})
		s = less()
		checkLoad(t, "parts missing", s, api.OK, someCells()...)
		checkAll(t, "parts missing, loaded", s, someCells()...)
	}
}

// anyKey is one of few keys, so that they meet.
func anyKey(r *rand.Rand) api.Key { return by(r.Intn(2)+2, r.Intn(2), r.Intn(2)+22) }

// anyMut is a change that may be nearly always.
func anyMut(r *rand.Rand) api.Mut {
	k, n := anyKey(r), numbers()[r.Intn(len(numbers()))]
	switch r.Intn(40) {
	case 0:
		return illMuts()[r.Intn(len(illMuts()))]
	case 1, 2, 3, 4:
		return set(k, n)
	case 5, 6, 7:
		return del(k)
	case 8, 9:
		return clean(k)
	case 10, 11, 12, 13, 14, 15:
		return put(k, r.Int63n(8), n)
	case 16, 17, 18, 19:
		return cut(k, r.Int63n(8))
	}
	return push(k, n)
}

// anyMuts are few changes, or many pushes of one key among them.
func anyMuts(r *rand.Rand) []api.Mut {
	var out []api.Mut
	for range r.Intn(6) {
		out = append(out, anyMut(r))
	}
	if r.Intn(4) == 0 {
		out = slices.Insert(out, r.Intn(len(out)+1), pushes(anyKey(r), r.Int63n(100), r.Intn(90))...)
	}
	return out
}

// TestManySteps holds s against the slow one, and against a twin that is told the same and asked in the end alone.
func TestManySteps(t *testing.T) {
	seen := map[api.Errno]int{}
	for seed := range int64(20) {
		r := rand.New(rand.NewSource(seed))
		s, twin, want := New(), New(), &slow{}
		for range 150 {
			if r.Intn(8) == 0 {
				cs := anyCells(r, want.cells())
				e := want.load(cs...)
				seen[e]++
				checkLoad(t, "a step", s, e, cs...)
				checkLoad(t, "a twin's step", twin, e, cs...)
			} else {
				ms := anyMuts(r)
				e := want.do(ms...)
				seen[e]++
				checkDo(t, "a step", s, e, ms...)
				checkDo(t, "a twin's step", twin, e, ms...)
			}
			checkAll(t, "a step", s, want.cells()...)
			if t.Failed() {
				return
			}
		}
		checkAll(t, "the twin", twin, want.cells()...)
		checkEq(t, "the twin", s, twin, true)
	}
	for _, e := range []api.Errno{api.OK, api.ErrForm, api.ErrFull} {
		if seen[e] < 100 {
			t.Errorf("the steps that are tried lead to %d only %d times", e, seen[e])
		}
	}
}

// TestDoOfVeryMany: all in one call, and none of them where the last one may not be.
func TestDoOfVeryMany(t *testing.T) {
	k := by(1, 1, 1)
	var ms []api.Mut
	for i := range 200000 {
		ms = append(ms, set(k, int64(i)), put(k, int64(i%8), int64(i)), push(k, int64(i)))
		if i%100 == 0 {
			ms = append(ms, clean(k))
		}
	}
	s := New()
	checkDo(t, "very many, the last one ill", s, api.ErrForm, append(ms, api.Mut{})...)
	checkAll(t, "very many, the last one ill", s)
	checkDo(t, "very many", s, api.OK, ms...)
	c := s.Cells()[0]
	if c.Value != 199999 || !slices.Equal(c.List, count(199901, 99)) || len(c.Dict) != 8 {
		t.Errorf("P10.1: very many: %v", c)
	}
}
