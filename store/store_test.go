package store

import (
	"bytes"
	"math"
	"math/rand"
	"slices"
	"strconv"
	"strings"
	"testing"

	"remembrancer/api"
)

// slow is a store by other means than the package's: a list that is gone through for each question.
type slow struct {
	room int
	all  []object
}

type object struct{ name, b string }

func (s *slow) find(name string) int {
	return slices.IndexFunc(s.all, func(o object) bool { return o.name == name })
}

func (s *slow) used() int {
	n := 0
	for _, o := range s.all {
		n += len(o.b)
	}
	return n
}

func (s *slow) put(name, b string, fail bool) api.Errno {
	i := s.find(name)
	switch {
	case name == "" || len(name) > 40:
		return api.ErrRange
	case len(b) > 65536:
		return api.ErrLarge
	case i >= 0 && s.all[i].b != b:
		return api.ErrTwice
	case i >= 0:
		return api.OK
	case s.room > 0 && s.used()+len(b) > s.room:
		return api.ErrFull
	case fail:
		return api.ErrFail
	}
	s.all = append(s.all, object{name, b})
	return api.OK
}

func (s *slow) drop(name string) api.Errno {
	i := s.find(name)
	if i < 0 {
		return api.ErrNone
	}
	s.all = slices.Delete(s.all, i, i+1)
	return api.OK
}

func (s *slow) list(front string) []string {
	var names []string
	for _, o := range s.all {
		if len(o.name) >= len(front) && o.name[:len(front)] == front {
			names = append(names, o.name)
		}
	}
	slices.Sort(names)
	return names
}

// checkSame holds a whole store against what is wanted: names, bytes and how many there are.
func checkSame(t *testing.T, at string, s *Store, want *slow) {
	t.Helper()
	if got := s.Used(); got != want.used() {
		t.Errorf("P4.1: %s: Used %d, not %d", at, got, want.used())
	}
	if got := s.List(""); !slices.Equal(got, want.list("")) {
		t.Errorf("P4.1: %s: List %q, not %q", at, got, want.list(""))
	}
	for _, o := range want.all {
		if b, e := s.Get(o.name); string(b) != o.b || e != api.OK {
			t.Errorf("P4.1: %s: Get(%q): %d bytes, %d, not %d bytes", at, o.name, len(b), e, len(o.b))
		}
	}
}

// mustPut is for tests that are about something else than Put.
func mustPut(t *testing.T, s *Store, name, b string) {
	t.Helper()
	if e := s.Put(name, []byte(b), false); e != api.OK {
		t.Fatalf("P4.1: Put(%q, %d bytes): %d", name, len(b), e)
	}
}

func checkPut(t *testing.T, s *Store, name, b string, fail bool, want api.Errno) {
	t.Helper()
	if e := s.Put(name, []byte(b), fail); e != want {
		t.Errorf("P4.1: Put(%d bytes of name, %d bytes, %v): %d, not %d", len(name), len(b), fail, e, want)
	}
}

func TestNew(t *testing.T) {
	for _, room := range []int{-1, -2, math.MinInt} {
		if New(room) != nil {
			t.Errorf("P4.1: New(%d) is not nil", room)
		}
	}
	for _, room := range []int{0, 1, 65536, math.MaxInt} {
		s := New(room)
		if s == nil {
			t.Fatalf("P4.1: New(%d) is nil", room)
		}
		checkSame(t, "a new one", s, &slow{})
	}
	a, b := New(0), New(0)
	mustPut(t, a, "n", "x")
	if b.Has("n") || b.Used() != 0 {
		t.Error("P0.5: one store knows what another one was told")
	}
}

func TestPutGetDrop(t *testing.T) {
	s := New(0)
	mustPut(t, s, "b", "second")
	mustPut(t, s, "a", "first")
	mustPut(t, s, "c", "")
	checkSame(t, "three", s, &slow{all: []object{{"a", "first"}, {"b", "second"}, {"c", ""}}})
	if e := s.Drop("b"); e != api.OK {
		t.Errorf("P4.1: Drop %d", e)
	}
	checkSame(t, "two", s, &slow{all: []object{{"a", "first"}, {"c", ""}}})
	if b, e := s.Get("b"); b != nil || e != api.ErrNone {
		t.Errorf("P4.1: Get of what was dropped: %q, %d", b, e)
	}
	if e := s.Drop("b"); e != api.ErrNone {
		t.Errorf("P4.1: Drop again: %d", e)
	}
	mustPut(t, s, "b", "another")
	checkSame(t, "put again", s, &slow{all: []object{{"a", "first"}, {"b", "another"}, {"c", ""}}})
	for _, name := range []string{"a", "b", "c"} {
		if e := s.Drop(name); e != api.OK {
			t.Errorf("P4.1: Drop(%q): %d", name, e)
		}
	}
	checkSame(t, "none is left", s, &slow{})
}

func TestNoneOfThatName(t *testing.T) {
	s := New(0)
	mustPut(t, s, "a", "x")
	for _, name := range []string{"", "b", "A", "aa", "a\x00", strings.Repeat("a", 40), strings.Repeat("a", 100000)} {
		if b, e := s.Get(name); b != nil || e != api.ErrNone {
			t.Errorf("P4.1: Get(%d bytes of name): %q, %d", len(name), b, e)
		}
		if e := s.Drop(name); e != api.ErrNone {
			t.Errorf("P4.1: Drop(%d bytes of name): %d", len(name), e)
		}
		if s.Has(name) {
			t.Errorf("P4.1: Has(%d bytes of name)", len(name))
		}
	}
	checkSame(t, "nothing was dropped", s, &slow{all: []object{{"a", "x"}}})
}

func TestNamesAtTheEdges(t *testing.T) {
	for _, c := range []struct {
		name string
		want api.Errno
	}{
		{"", api.ErrRange},
		{"x", api.OK},
		{"\x00", api.OK},
		{"\xff\xfe", api.OK},
		{strings.Repeat("x", 39), api.OK},
		{strings.Repeat("x", 40), api.OK},
		{strings.Repeat("é", 20), api.OK},
		{strings.Repeat("é", 21), api.ErrRange},
		{strings.Repeat("x", 41), api.ErrRange},
		{strings.Repeat("x", 100000), api.ErrRange},
	} {
		s := New(0)
		checkPut(t, s, c.name, "ab", false, c.want)
		want := &slow{}
		if c.want == api.OK {
			want.all = []object{{c.name, "ab"}}
		}
		checkSame(t, "a name of "+strconv.Itoa(len(c.name))+" bytes", s, want)
	}
}

func TestObjectsAtTheEdges(t *testing.T) {
	for _, c := range []struct {
		n    int
		want api.Errno
	}{{0, api.OK}, {1, api.OK}, {65535, api.OK}, {65536, api.OK}, {65537, api.ErrLarge}, {1 << 20, api.ErrLarge}} {
		s := New(0)
		b := strings.Repeat("x", c.n)
		checkPut(t, s, "n", b, false, c.want)
		want := &slow{}
		if c.want == api.OK {
			want.all = []object{{"n", b}}
		}
		checkSame(t, "an object of "+strconv.Itoa(c.n)+" bytes", s, want)
	}
}

func TestRoom(t *testing.T) {
	s := New(10)
	want := &slow{room: 10}
	for _, c := range []struct {
		name, b string
		fail    bool
		want    api.Errno
	}{
		{"a", "12345678901", false, api.ErrFull},
		{"a", "1234567890", false, api.OK},
		{"b", "1", false, api.ErrFull},
		{"b", "", false, api.OK},
	} {
		checkPut(t, s, c.name, c.b, c.fail, c.want)
		want.put(c.name, c.b, c.fail)
		checkSame(t, "with room for 10", s, want)
	}
	s.Drop("a")
	checkPut(t, s, "c", "123456", false, api.OK)
	checkPut(t, s, "d", "12345", false, api.ErrFull)
	checkPut(t, s, "d", "1234", false, api.OK)
	checkSame(t, "room that was given back", s, &slow{all: []object{{"b", ""}, {"c", "123456"}, {"d", "1234"}}})
}

func TestHugeRoomAndNoBound(t *testing.T) {
	big := strings.Repeat("x", 65536)
	for _, room := range []int{0, math.MaxInt} {
		s := New(room)
		for i := range 40 {
			mustPut(t, s, strconv.Itoa(i), big)
		}
		if s.Used() != 40*65536 {
			t.Errorf("P4.1: New(%d): Used %d", room, s.Used())
		}
	}
}

func TestFail(t *testing.T) {
	s := New(5)
	checkPut(t, s, "a", "12345", true, api.ErrFail)
	checkPut(t, s, "b", "", true, api.ErrFail)
	checkSame(t, "nothing behind a failure", s, &slow{})
	checkPut(t, s, "a", "12345", false, api.OK)
	checkSame(t, "whole behind a second try", s, &slow{all: []object{{"a", "12345"}}})
}

func TestTheSameAgain(t *testing.T) {
	s := New(4)
	mustPut(t, s, "a", "123")
	mustPut(t, s, "b", "")
	for _, fail := range []bool{false, true} {
		checkPut(t, s, "a", "123", fail, api.OK)
		checkPut(t, s, "b", "", fail, api.OK)
	}
	if e := s.Put("b", nil, true); e != api.OK {
		t.Errorf("P0.4: Put of nil where an empty object is: %d", e)
	}
	mustPut(t, s, "c", "4")
	checkPut(t, s, "a", "123", true, api.OK)
	checkPut(t, s, "a", "123", false, api.OK)
	checkSame(t, "the same again", s, &slow{all: []object{{"a", "123"}, {"b", ""}, {"c", "4"}}})
}

func TestOrderOfErrors(t *testing.T) {
	s := New(4)
	mustPut(t, s, "a", "123")
	long, large := strings.Repeat("x", 41), strings.Repeat("x", 65537)
	for _, c := range []struct {
		name, b string
		want    api.Errno
	}{
		{"", large, api.ErrRange},
		{long, large, api.ErrRange},
		{"", "12", api.ErrRange},
		{"a", large, api.ErrLarge},
		{"b", large, api.ErrLarge},
		{"a", "124", api.ErrTwice},
		{"a", "12", api.ErrTwice},
		{"a", "1234", api.ErrTwice},
		{"a", "", api.ErrTwice},
		{"a", "12345678", api.ErrTwice},
		{"b", "12", api.ErrFull},
	} {
		for _, fail := range []bool{true, false} {
			checkPut(t, s, c.name, c.b, fail, c.want)
		}
		checkSame(t, "behind an error", s, &slow{all: []object{{"a", "123"}}})
	}
	checkPut(t, s, "b", "1", true, api.ErrFail)
	checkSame(t, "behind ErrFail", s, &slow{all: []object{{"a", "123"}}})
}

func TestList(t *testing.T) {
	s := New(0)
	for _, name := range []string{"b/2", "a", "b/10", "b", "\xff", "b/1", "é", "B", "\x00", "ab"} {
		mustPut(t, s, name, "")
	}
	for _, c := range []struct {
		front string
		want  []string
	}{
		{"", []string{"\x00", "B", "a", "ab", "b", "b/1", "b/10", "b/2", "é", "\xff"}},
		{"b", []string{"b", "b/1", "b/10", "b/2"}},
		{"b/", []string{"b/1", "b/10", "b/2"}},
		{"b/1", []string{"b/1", "b/10"}},
		{"a", []string{"a", "ab"}},
		{"\xc3", []string{"é"}},
		{"/", nil},
		{"c", nil},
		{"b/100", nil},
		{strings.Repeat("b", 100000), nil},
	} {
		if got := s.List(c.front); !slices.Equal(got, c.want) {
			t.Errorf("P4.1: List(%q): %q, not %q", c.front, got, c.want)
		}
	}
	if got := New(0).List(""); len(got) != 0 {
		t.Errorf("P4.1: List of nothing: %q", got)
	}
}

func TestHas(t *testing.T) {
	s := New(0)
	if !s.Has() || s.Has("a") || s.Has("") {
		t.Error("P4.1: Has, without objects")
	}
	mustPut(t, s, "a", "")
	mustPut(t, s, "b", "x")
	for _, names := range [][]string{nil, {}, {"a"}, {"b"}, {"b", "a"}, {"a", "a", "b", "a"}} {
		if !s.Has(names...) {
			t.Errorf("P4.1: Has(%q) is false", names)
		}
	}
	for _, names := range [][]string{{"c"}, {""}, {"a", "c"}, {"c", "a"}, {"a", "", "b"}, {"a", "b", "ab"}} {
		if s.Has(names...) {
			t.Errorf("P4.1: Has(%q) is true", names)
		}
	}
	s.Drop("a")
	if s.Has("a", "b") || !s.Has("b") {
		t.Error("P4.1: Has, of what was dropped")
	}
}

func TestNilStore(t *testing.T) {
	var s *Store
	large := make([]byte, 65537)
	for _, name := range []string{"", "a", strings.Repeat("x", 41)} {
		for _, fail := range []bool{false, true} {
			if s.Put(name, nil, fail) != api.ErrOff || s.Put(name, large, fail) != api.ErrOff {
				t.Error("P4.1: Put of a nil store")
			}
		}
		if b, e := s.Get(name); b != nil || e != api.ErrOff {
			t.Errorf("P4.1: Get of a nil store: %v, %d", b, e)
		}
		if s.Drop(name) != api.ErrOff || s.List(name) != nil || s.Has(name) {
			t.Error("P4.1: Drop, List or Has of a nil store")
		}
	}
	if s.Used() != 0 || s.Has() || s.Has("a", "b") {
		t.Error("P4.1: Used or Has of a nil store")
	}
}

func TestZeroStore(t *testing.T) {
	var s Store
	if s.Drop("a") != api.ErrNone || len(s.List("")) != 0 || s.Used() != 0 || s.Has("a") || !s.Has() {
		t.Error("P0.1: a zero store")
	}
	mustPut(t, &s, "a", "x")
	checkSame(t, "a zero store", &s, &slow{all: []object{{"a", "x"}}})
}

func TestWhatIsPutIsACopy(t *testing.T) {
	s := New(0)
	room := []byte("mine and spare")
	b := room[:4]
	if e := s.Put("m", b, false); e != api.OK {
		t.Fatalf("P4.1: Put %d", e)
	}
	if string(room) != "mine and spare" {
		t.Errorf("P0.3: Put changed its argument: %q", room)
	}
	copy(room, "MINE AND SPARE")
	if got, _ := s.Get("m"); string(got) != "mine" {
		t.Errorf("P0.3: the store keeps the list that it was handed: %q", got)
	}
	s.Put("m", b, false)
	s.Put("m", b, true)
	if string(room) != "MINE AND SPARE" {
		t.Errorf("P0.3: a put of others changed its argument: %q", room)
	}
}

func TestWhatIsToldIsACopy(t *testing.T) {
	s := New(0)
	mustPut(t, s, "a", "first")
	mustPut(t, s, "b", "second")
	one, _ := s.Get("a")
	two, _ := s.Get("a")
	one = one[:cap(one)]
	for i := range one {
		one[i] = 'z'
	}
	_ = append(two, "spare"...)
	if string(two) != "first" {
		t.Errorf("P0.3: two answers share memory: %q", two)
	}
	names := s.List("")
	again := s.List("")
	for i := range names[:cap(names)] {
		names[:cap(names)][i] = "z"
	}
	if !slices.Equal(again, []string{"a", "b"}) {
		t.Errorf("P0.3: two lists share memory: %q", again)
	}
	checkSame(t, "answers written into", s, &slow{all: []object{{"a", "first"}, {"b", "second"}}})
}

func TestHasLeavesItsNames(t *testing.T) {
	s := New(0)
	mustPut(t, s, "a", "")
	names := []string{"b", "a", "c", "a"}
	s.Has(names...)
	if !slices.Equal(names, []string{"b", "a", "c", "a"}) {
		t.Errorf("P0.3: Has changed its argument: %q", names)
	}
}

func TestManySteps(t *testing.T) {
	for seed := range int64(60) {
		r := rand.New(rand.NewSource(seed))
		room := []int{0, 1, 7, 20, 60}[seed%5]
		s, twin, want := New(room), New(room), &slow{room: room}
		for range 300 {
			step(t, r, s, twin, want)
		}
		checkSame(t, "behind many steps", s, want)
		if t.Failed() {
			t.Fatalf("seed %d", seed)
		}
	}
}

// step does one thing with two stores and with what they are held against.
func step(t *testing.T, r *rand.Rand, s, twin *Store, want *slow) {
	name := strings.Repeat(string(rune('a'+r.Intn(3))), r.Intn(4))
	if r.Intn(20) == 0 {
		name = strings.Repeat("n", 39+r.Intn(3))
	}
	switch r.Intn(4) {
	case 0, 1:
		b := bytes.Repeat([]byte{byte('0' + r.Intn(2))}, r.Intn(9))
		fail := r.Intn(4) == 0
		got, again, wanted := s.Put(name, b, fail), twin.Put(name, b, fail), want.put(name, string(b), fail)
		if got != wanted || got != again {
			t.Errorf("P4.1, P0.5: Put(%q, %q, %v): %d and %d, not %d", name, b, fail, got, again, wanted)
		}
	case 2:
		got, again, wanted := s.Drop(name), twin.Drop(name), want.drop(name)
		if got != wanted || got != again {
			t.Errorf("P4.1, P0.5: Drop(%q): %d and %d, not %d", name, got, again, wanted)
		}
	default:
		got, again, wanted := s.List(name), twin.List(name), want.list(name)
		if !slices.Equal(got, wanted) || !slices.Equal(got, again) {
			t.Errorf("P4.1, P0.5: List(%q): %q and %q, not %q", name, got, again, wanted)
		}
	}
	if s.Used() != want.used() || s.Has(name) != (want.find(name) >= 0) {
		t.Errorf("P4.1: %q: Used %d, not %d, or Has %v", name, s.Used(), want.used(), s.Has(name))
	}
}

func TestManyObjects(t *testing.T) {
	const many = 50000
	s := New(many)
	for i := range many {
		mustPut(t, s, strconv.Itoa(i), "x")
	}
	checkPut(t, s, "one more", "x", false, api.ErrFull)
	if s.Used() != many || len(s.List("")) != many || len(s.List("49")) != 1111 {
		t.Errorf("P4.1: many objects: %d, %d, %d", s.Used(), len(s.List("")), len(s.List("49")))
	}
}
