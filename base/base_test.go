package base

import (
	"bytes"
	"math"
	"math/rand"
	"reflect"
	"slices"
	"testing"

	"remembrancer/api"
	"remembrancer/state"
)

func by(group, ns, id int) api.Key { return api.Key{Group: group, Ns: ns, Id: id} }

// numbers are those that a value, a list or a field may have: of one byte, of two, of ten.
func numbers() []int64 {
	return []int64{0, 1, -1, 63, 64, -64, -65, 8191, 8192, -8192, -8193, 1 << 32, math.MaxInt64, math.MinInt64}
}

// count is n and those behind it, so many in all.
func count(n int64, many int) []int64 {
	var out []int64
	for i := range int64(many) {
		out = append(out, n+i)
	}
	return out
}

// of is a list of many times n.
func of(n int64, many int) []int64 { return slices.Repeat([]int64{n}, many) }

// fields are one behind the other: F, V, F, V.
func fields(ns ...int64) []api.Field {
	var out []api.Field
	for i := 0; i < len(ns); i += 2 {
		out = append(out, api.Field{F: ns[i], V: ns[i+1]})
	}
	return out
}

// allFields are all eight, each with n.
func allFields(n int64) []api.Field {
	return fields(0, n, 1, n, 2, n, 3, n, 4, n, 5, n, 6, n, 7, n)
}

// made is a state of these cells, whatever their keys.
func made(cs ...api.Cell) *state.State {
	s := state.New()
	for _, c := range cs {
		if c.Has {
			s.Set(c.Key, c.Value)
		}
		s.Push(c.Key, c.List...)
		for _, field := range c.Dict {
			s.PutField(c.Key, field.F, field.V)
		}
	}
	return s
}

// checkPut holds what Put tells against the document's bytes, and the state against what it was.
func checkPut(t *testing.T, name string, at int, s *state.State, want []byte, e api.Errno) []byte {
	t.Helper()
	before := s.Cells()
	got, gotE := Put(at, s)
	if gotE != e || !bytes.Equal(got, want) {
		t.Errorf("P14.1: Put(%d), %s: %d bytes, %d, not %d bytes, %d", at, name, len(got), gotE, len(want), e)
	}
	if e != api.OK && got != nil {
		t.Errorf("P14.1: Put(%d), %s: beside an error the bytes are not nil", at, name)
	}
	if !reflect.DeepEqual(s.Cells(), before) {
		t.Errorf("P14.1: Put(%d), %s: the state was changed", at, name)
	}
	return got
}

// checkGet holds what Get tells against the cells that are wanted.
func checkGet(t *testing.T, name string, b []byte, at int, cs ...api.Cell) {
	t.Helper()
	gotAt, s, e := Get(b)
	if gotAt != at || s == nil || e != api.OK {
		t.Errorf("P14.1: Get, %s: %d, %v, %d, not %d and a state", name, gotAt, s, e, at)
		return
	}
	if got := s.Cells(); len(got)+len(cs) > 0 && !reflect.DeepEqual(got, cs) {
		t.Errorf("P14.1: Get, %s: %v, not %v", name, got, cs)
	}
}

func checkNone(t *testing.T, name string, b []byte, e api.Errno) {
	t.Helper()
	if at, s, gotE := Get(b); at != 0 || s != nil || gotE != e {
		t.Errorf("P14.1: Get, %s: %d, %v, %d, not 0, nil, %d", name, at, s, gotE, e)
	}
}

// checkBoth puts and gets the state of these cells, which are as Cells tells them.
func checkBoth(t *testing.T, name string, at int, cs ...api.Cell) {
	t.Helper()
	s := made(cs...)
	b := checkPut(t, name, at, s, slowBase(at, cs...), api.OK)
	checkGet(t, name, b, at, cs...)
	if _, back, _ := Get(b); !state.Eq(back, s) {
		t.Errorf("P14.1: Get, %s: Eq calls it another state", name)
	}
}

// TestKnownBytes has a snapshot written out, sums too, so that nothing of the program is trusted.
func TestKnownBytes(t *testing.T) {
	a := api.Cell{Key: by(1, 0, 5), Has: true, Value: -2, List: []int64{1, 64}}
	z := api.Cell{Key: by(1, 1, 9), Dict: fields(4, -300)}
	want := []byte{
		4, 243, 0, 22, 3, 'B', 172, 2, 2,
		10, 144, 0, 233, 1, 1, 0, 5, 1, 3, 2, 2, 128, 1, 0,
		9, 236, 0, 27, 2, 1, 1, 9, 0, 0, 1, 4, 215, 4,
	}
	checkPut(t, "known bytes", 300, made(a, z), want, api.OK)
	checkGet(t, "known bytes", want, 300, a, z)
}

func TestAt(t *testing.T) {
	c := api.Cell{Key: by(0, 0, 0), Has: true, Value: 1}
	for _, at := range []int{0, 1, 2, 127, 128, 129, 9999, 10000} {
		checkBoth(t, "at", at, c)
		checkBoth(t, "at, of nothing", at)
	}
	for _, at := range []int{-1, -2, 10001, 10002, 16384, 1 << 32, math.MinInt, math.MaxInt, math.MinInt + 10000} {
		checkPut(t, "at", at, made(c), nil, api.ErrRange)
		checkPut(t, "at, of nothing", at, state.New(), nil, api.ErrRange)
		checkPut(t, "at, of nil", at, nil, nil, api.ErrRange)
	}
}

func TestEachAtThereMayBe(t *testing.T) {
	c := api.Cell{Key: by(3, 1, 23), List: []int64{7}}
	s := made(c)
	for at := 0; at <= 10000; at++ {
		b, e := Put(at, s)
		if !bytes.Equal(b, slowBase(at, c)) || e != api.OK {
			t.Fatalf("P14.1: Put(%d): %x, %d", at, b, e)
		}
		if got, back, e := Get(b); got != at || !state.Eq(back, s) || e != api.OK {
			t.Fatalf("P14.1: Get, at %d: %d, %d", at, got, e)
		}
	}
}

func TestOfNothing(t *testing.T) {
	want := slowFrame([]byte{'B', 7, 0})
	emptied := made(api.Cell{Key: by(1, 0, 1), Has: true, Value: 1, List: count(1, 3), Dict: allFields(1)})
	if e := emptied.Load(); e != api.OK {
		t.Fatal(e)
	}
	for _, s := range []*state.State{nil, state.New(), {}, emptied, {Values: state.New().Values}} {
		checkPut(t, "of nothing", 7, s, want, api.OK)
	}
	checkGet(t, "of nothing", want, 7)
	_, s, _ := Get(want)
	if !state.Eq(s, nil) {
		t.Error("P14.1: Get: a state of nothing has something")
	}
	if e := s.Do(api.Mut{Kind: api.MSet, V: 5}, api.Mut{Kind: api.MPush, V: 6}, api.Mut{Kind: api.MPut, F: 1, V: 7}); e != api.OK {
		t.Errorf("P14.1: Get: a state that can't be changed: %d", e)
	}
}

// TestEachKey: a value alone (0 among them), a list alone, fields alone, and all three, at each key that may be.
func TestEachKey(t *testing.T) {
	for group := range 4 {
		for ns := range 2 {
			for id := range 24 {
				k, n := by(group, ns, id), int64(id-12)
				checkBoth(t, "a value", 1, api.Cell{Key: k, Has: true, Value: n})
				checkBoth(t, "a list", 1, api.Cell{Key: k, List: count(n, 3)})
				checkBoth(t, "fields", 1, api.Cell{Key: k, Dict: fields(0, n, 7, -n)})
				checkBoth(t, "all three", 1, api.Cell{Key: k, Has: true, Value: n, List: count(n, 2), Dict: fields(3, n)})
			}
		}
	}
}

func TestEachNumber(t *testing.T) {
	k := by(2, 0, 10)
	for _, n := range numbers() {
		checkBoth(t, "a value", 1, api.Cell{Key: k, Has: true, Value: n})
		checkBoth(t, "a list", 1, api.Cell{Key: k, List: []int64{n}})
		checkBoth(t, "fields", 1, api.Cell{Key: k, Dict: fields(5, n)})
		checkBoth(t, "all three", 1, api.Cell{Key: k, Has: true, Value: n, List: of(n, 100), Dict: allFields(n)})
	}
	for many := range 101 {
		checkBoth(t, "a list", 1, api.Cell{Key: k, Has: true, List: count(-50, many)})
	}
	for f := range int64(8) {
		checkBoth(t, "a field", 1, api.Cell{Key: k, Dict: fields(f, -f)})
	}
}

// TestAllKeys: cells stand by rising keys, in whatever order the keys came.
func TestAllKeys(t *testing.T) {
	var cs []api.Cell
	for group := range 4 {
		for ns := range 2 {
			for id := range 24 {
				cs = append(cs, api.Cell{Key: by(group, ns, id), Has: true, Value: int64(id), List: []int64{int64(ns)}})
			}
		}
	}
	b := checkPut(t, "all keys", 1, made(cs...), slowBase(1, cs...), api.OK)
	checkGet(t, "all keys", b, 1, cs...)
	back := slices.Clone(cs)
	slices.Reverse(back)
	checkPut(t, "all keys, the last first", 1, made(back...), slowBase(1, cs...), api.OK)
}

// TestLongestCell: it is far from what a frame may have.
func TestLongestCell(t *testing.T) {
	c := api.Cell{Key: by(3, 1, 23), Has: true, Value: math.MinInt64, List: of(math.MinInt64, 100), Dict: allFields(math.MinInt64)}
	checkBoth(t, "the longest cell", 10000, c)
	if n := len(slowCell(c)); n != 1104 {
		t.Errorf("P14.1: the longest cell has %d bytes", n)
	}
}

// TestKeysThatMayNotBe: the document lets Put write any number; Get takes none of them, as Load doesn't.
func TestKeysThatMayNotBe(t *testing.T) {
	for _, k := range []api.Key{
		by(-1, 0, 0), by(4, 0, 0), by(0, -1, 0), by(0, 2, 0), by(0, 0, -1), by(0, 0, 24),
		by(math.MinInt, math.MinInt, math.MinInt), by(math.MaxInt, math.MaxInt, math.MaxInt), by(1<<32, 0, 0),
	} {
		for _, c := range []api.Cell{
			{Key: k, Has: true, Value: 1}, {Key: k, List: of(math.MinInt64, 100)}, {Key: k, Dict: allFields(math.MinInt64)},
		} {
			b := checkPut(t, "a key that may not be", 1, made(c), slowBase(1, c), api.OK)
			checkNone(t, "a key that may not be", b, api.ErrForm)
		}
	}
}

// sized is cells whose snapshot at 1 has just so many bytes, something near to 65,536.
func sized(t *testing.T, want int) []api.Cell {
	t.Helper()
	var cs []api.Cell
	for i := range 64 {
		cs = append(cs, api.Cell{Key: by(i/24, 0, i%24), List: of(math.MaxInt64, 100)})
	}
	rest := want - len(slowBase(1, cs...))
	for many := range 100 {
		for _, n := range []int64{0, 64, 1 << 13, 1 << 20, 1 << 27, 1 << 34, 1 << 41, 1 << 48, 1 << 55, 1 << 62} {
			last := api.Cell{Key: by(3, 1, 23), List: append(of(math.MaxInt64, many), n)}
			if len(slowFrame(slowCell(last))) == rest {
				return append(cs, last)
			}
		}
	}
	t.Fatalf("no snapshot has %d bytes", want)
	return nil
}

func TestSizes(t *testing.T) {
	for _, n := range []int{65400, 65530, 65533, 65534, 65535, 65536} {
		checkBoth(t, "nearly too large", 1, sized(t, n)...)
	}
	for _, n := range []int{65537, 65538, 65539, 65600} {
		cs := sized(t, n)
		checkPut(t, "too large", 1, made(cs...), nil, api.ErrLarge)
		checkPut(t, "too large", -1, made(cs...), nil, api.ErrRange)
		checkPut(t, "too large", 10001, made(cs...), nil, api.ErrRange)
	}
	// With one byte more for at it is too large, with that one less it is not.
	cs := sized(t, 65536)
	checkPut(t, "just too large", 127, made(cs...), slowBase(127, cs...), api.OK)
	checkPut(t, "just too large", 128, made(cs...), nil, api.ErrLarge)
}

func TestMuchTooLarge(t *testing.T) {
	s := state.New()
	for i := range 100000 {
		s.Set(by(0, 0, i), 1)
	}
	checkPut(t, "100,000 keys", 1, s, nil, api.ErrLarge)
}

// someCells are cells by rising keys, at random.
func someCells(r *rand.Rand) []api.Cell {
	var cs []api.Cell
	for group := range 4 {
		for ns := range 2 {
			for id := range 24 {
				if r.Intn(40) == 0 {
					cs = append(cs, someCell(r, by(group, ns, id)))
				}
			}
		}
	}
	return cs
}

func someCell(r *rand.Rand, k api.Key) api.Cell {
	c := api.Cell{Key: k}
	which := 1 + r.Intn(7)
	if which&1 > 0 {
		c.Has, c.Value = true, someNumber(r)
	}
	if which&2 > 0 {
		for range 1 + r.Intn(5) {
			c.List = append(c.List, someNumber(r))
		}
	}
	if which&4 > 0 {
		for f := int64(r.Intn(3)); f < 8; f += 1 + int64(r.Intn(4)) {
			c.Dict = append(c.Dict, api.Field{F: f, V: someNumber(r)})
		}
	}
	return c
}

func someNumber(r *rand.Rand) int64 {
	n := int64(r.Uint64()) >> r.Intn(64)
	return n
}

func TestRandomStates(t *testing.T) {
	r := rand.New(rand.NewSource(14))
	for range 3000 {
		checkBoth(t, "at random", r.Intn(10001), someCells(r)...)
	}
}

// TestPutKeepsNothing: what Put told stays, whatever becomes of the state, and of what it told before.
func TestPutKeepsNothing(t *testing.T) {
	c := api.Cell{Key: by(1, 1, 1), Has: true, Value: 5, List: count(1, 4), Dict: fields(2, 3)}
	s, want := made(c), slowBase(3, c)
	first := checkPut(t, "first", 3, s, want, api.OK)
	second := checkPut(t, "second", 3, s, want, api.OK)
	for _, all := 0, first[:cap(first)]; len(all) > 0; all = all[1:] {
		all[0] ^= 255
	}
	if !bytes.Equal(second, want) {
		t.Error("P0.3: two answers of Put share their bytes")
	}
	checkPut(t, "third", 3, s, want, api.OK)
	s.Set(c.Key, 6)
	s.Push(c.Key, 7)
	if !bytes.Equal(second, want) {
		t.Error("P0.3: what Put told changes with the state")
	}
}

// TestGetKeepsNothing: each state is one of its own, and b stays as it is, its spare room too.
func TestGetKeepsNothing(t *testing.T) {
	c := api.Cell{Key: by(1, 1, 1), Has: true, Value: 5, List: count(1, 4), Dict: fields(2, 3)}
	b := append(make([]byte, 0, 500), slowBase(3, c)...)
	all := b[:cap(b)]
	for i := len(b); i < len(all); i++ {
		all[i] = 'x'
	}
	before := bytes.Clone(all)
	_, first, _ := Get(b)
	_, second, _ := Get(b)
	if !bytes.Equal(all, before) {
		t.Error("P0.3: Get changed b")
	}
	for i := range all {
		all[i] ^= 255
	}
	first.Set(c.Key, 6)
	first.Clear(c.Key)
	first.PutField(c.Key, 2, 4)
	if got := second.Cells(); !reflect.DeepEqual(got, []api.Cell{c}) {
		t.Errorf("P0.3: what Get told changed with b or with another one: %v", got)
	}
}
