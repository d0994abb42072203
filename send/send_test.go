package send

import (
	"bytes"
	"math/rand"
	"slices"
	"strconv"
	"strings"
	"testing"

	"remembrancer/api"
	"remembrancer/store"
)

// slow is a queue by other means than the package's: all that was ever added, of which the first n are sent.
type slow struct {
	to  *store.Store
	all []added
	n   int
}

type added struct{ name, b string }

func (q *slow) find(name string) int {
	return slices.IndexFunc(q.all, func(a added) bool { return a.name == name })
}

func (q *slow) add(name, b string) bool {
	if q.find(name) >= 0 {
		return false
	}
	q.all = append(q.all, added{name, b})
	return true
}

func (q *slow) step(fail bool) api.Errno {
	if q.n == len(q.all) {
		return api.ErrNone
	}
	e := q.to.Put(q.all[q.n].name, []byte(q.all[q.n].b), fail)
	if e == api.OK {
		q.n++
	}
	return e
}

func (q *slow) sent(names ...string) bool {
	return !slices.ContainsFunc(names, func(name string) bool {
		i := q.find(name)
		return i < 0 || i >= q.n
	})
}

func (q *slow) left() []string {
	var names []string
	for i := q.n; i < len(q.all); i++ {
		names = append(names, q.all[i].name)
	}
	return names
}

func checkAdd(t *testing.T, q *Queue, name, b string, want bool) {
	t.Helper()
	if got := q.Add(name, []byte(b)); got != want {
		t.Errorf("P13.1: Add(%d bytes of name, %d bytes): %v, not %v", len(name), len(b), got, want)
	}
}

// checkStep tells what waits behind it as well: it is where a step is to be seen.
func checkStep(t *testing.T, q *Queue, fail bool, want api.Errno, left ...string) {
	t.Helper()
	if got := q.Step(fail); got != want {
		t.Errorf("P13.1: Step(%v): %d, not %d", fail, got, want)
	}
	checkLeft(t, q, left...)
}

func checkLeft(t *testing.T, q *Queue, want ...string) {
	t.Helper()
	if got := q.Left(); !slices.Equal(got, want) {
		t.Errorf("P13.1: Left %q, not %q", got, want)
	}
}

func checkSent(t *testing.T, q *Queue, want bool, names ...string) {
	t.Helper()
	if got := q.Sent(names...); got != want {
		t.Errorf("P13.1: Sent(%q): %v, not %v", names, got, want)
	}
}

func checkObject(t *testing.T, s *store.Store, name, want string) {
	t.Helper()
	if b, e := s.Get(name); string(b) != want || e != api.OK {
		t.Errorf("P13.1: the store has %d bytes of %q, %d, not %d bytes", len(b), name, e, len(want))
	}
}

// put is for what comes into the store by others than the queue.
func put(t *testing.T, s *store.Store, name, b string) {
	t.Helper()
	if e := s.Put(name, []byte(b), false); e != api.OK {
		t.Fatalf("Put(%q): %d", name, e)
	}
}

func TestNothingWaits(t *testing.T) {
	s := store.New(0)
	q := New(s)
	for _, fail := range []bool{false, true} {
		checkStep(t, q, fail, api.ErrNone)
	}
	checkSent(t, q, true)
	checkSent(t, q, false, "a")
	checkSent(t, q, false, "")
	checkAdd(t, q, "a", "1", true)
	checkStep(t, q, false, api.OK)
	for _, fail := range []bool{false, true} {
		checkStep(t, q, fail, api.ErrNone)
	}
	checkSent(t, q, true, "a")
	if s.Used() != 1 || !slices.Equal(s.List(""), []string{"a"}) {
		t.Errorf("P13.1: the store has %q", s.List(""))
	}
}

func TestInOrder(t *testing.T) {
	s := store.New(0)
	q := New(s)
	for _, name := range []string{"c", "a", "d", "b"} {
		checkAdd(t, q, name, "of "+name, true)
	}
	checkLeft(t, q, "c", "a", "d", "b")
	if len(s.List("")) != 0 {
		t.Errorf("P13.1: the store has %q ahead of a Step", s.List(""))
	}
	checkStep(t, q, false, api.OK, "a", "d", "b")
	checkObject(t, s, "c", "of c")
	if s.Has("a") || s.Has("d") || s.Has("b") {
		t.Error("P13.1: a Step sends more than one")
	}
	checkStep(t, q, true, api.ErrFail, "a", "d", "b")
	checkStep(t, q, true, api.ErrFail, "a", "d", "b")
	if !slices.Equal(s.List(""), []string{"c"}) {
		t.Errorf("P13.1: the store has %q behind a failure", s.List(""))
	}
	checkStep(t, q, false, api.OK, "d", "b")
	checkAdd(t, q, "e", "of e", true)
	checkLeft(t, q, "d", "b", "e")
	checkStep(t, q, false, api.OK, "b", "e")
	checkStep(t, q, false, api.OK, "e")
	checkStep(t, q, true, api.ErrFail, "e")
	checkStep(t, q, false, api.OK)
	for _, name := range []string{"a", "b", "c", "d", "e"} {
		checkObject(t, s, name, "of "+name)
	}
}

func TestAddOfOneThatWaits(t *testing.T) {
	s := store.New(0)
	q := New(s)
	checkAdd(t, q, "a", "first", true)
	checkAdd(t, q, "b", "x", true)
	for _, b := range []string{"first", "other", ""} {
		checkAdd(t, q, "a", b, false)
		checkLeft(t, q, "a", "b")
	}
	checkStep(t, q, false, api.OK, "b")
	checkObject(t, s, "a", "first")
}

func TestAddOfOneThatIsSent(t *testing.T) {
	s := store.New(0)
	q := New(s)
	checkAdd(t, q, "a", "first", true)
	checkStep(t, q, false, api.OK)
	for _, b := range []string{"first", "other", ""} {
		checkAdd(t, q, "a", b, false)
		checkStep(t, q, false, api.ErrNone)
	}
	checkSent(t, q, true, "a")
	checkObject(t, s, "a", "first")
	s.Drop("a")
	checkAdd(t, q, "a", "first", false)
	checkStep(t, q, false, api.ErrNone)
	checkSent(t, q, true, "a")
	if s.Has("a") {
		t.Error("P13.1: what was dropped from the store is sent again")
	}
}

func TestAddOfOneThatFailed(t *testing.T) {
	s := store.New(0)
	q := New(s)
	checkAdd(t, q, "a", "first", true)
	checkAdd(t, q, "b", "x", true)
	checkStep(t, q, true, api.ErrFail, "a", "b")
	checkAdd(t, q, "a", "other", false)
	checkLeft(t, q, "a", "b")
	checkSent(t, q, false, "a")
	checkStep(t, q, false, api.OK, "b")
	checkObject(t, s, "a", "first")
	checkAdd(t, q, "a", "other", false)
	checkLeft(t, q, "b")
}

func TestNamesAtTheEdges(t *testing.T) {
	for _, c := range []struct {
		name string
		want api.Errno
	}{
		{"", api.ErrRange},
		{"x", api.OK},
		{"\x00", api.OK},
		{"\xff\xfe", api.OK},
		{strings.Repeat("x", 40), api.OK},
		{strings.Repeat("é", 20), api.OK},
		{strings.Repeat("x", 41), api.ErrRange},
		{strings.Repeat("x", 100000), api.ErrRange},
	} {
		s := store.New(0)
		q := New(s)
		checkAdd(t, q, c.name, "12", true)
		checkAdd(t, q, c.name, "12", false)
		checkAdd(t, q, "behind", "3", true)
		checkLeft(t, q, c.name, "behind")
		if c.want == api.OK {
			checkStep(t, q, true, api.ErrFail, c.name, "behind")
			checkStep(t, q, false, api.OK, "behind")
			checkSent(t, q, true, c.name)
			checkObject(t, s, c.name, "12")
			continue
		}
		for _, fail := range []bool{false, true, false} {
			checkStep(t, q, fail, c.want, c.name, "behind")
		}
		checkSent(t, q, false, c.name)
		if len(s.List("")) != 0 {
			t.Errorf("P13.1: the store has %q behind %d", s.List(""), c.want)
		}
	}
}

func TestObjectsAtTheEdges(t *testing.T) {
	for _, c := range []struct {
		n    int
		want api.Errno
	}{{0, api.OK}, {1, api.OK}, {65536, api.OK}, {65537, api.ErrLarge}, {1 << 20, api.ErrLarge}} {
		s := store.New(0)
		q := New(s)
		b := strings.Repeat("y", c.n)
		checkAdd(t, q, "a", b, true)
		checkAdd(t, q, "b", "", true)
		if c.want == api.OK {
			checkStep(t, q, false, api.OK, "b")
			checkObject(t, s, "a", b)
			continue
		}
		for _, fail := range []bool{false, true, false} {
			checkStep(t, q, fail, c.want, "a", "b")
		}
		checkSent(t, q, false, "a")
		if len(s.List("")) != 0 {
			t.Errorf("P13.1: the store has %q behind %d", s.List(""), c.want)
		}
	}
	q := New(store.New(0))
	if !q.Add("n", nil) || q.Add("n", []byte{}) || q.Step(false) != api.OK || !q.Sent("n") {
		t.Error("P0.4: Add of nil bytes")
	}
}

func TestTwice(t *testing.T) {
	s := store.New(0)
	put(t, s, "a", "of another one")
	q := New(s)
	checkAdd(t, q, "a", "mine", true)
	checkAdd(t, q, "b", "x", true)
	for _, fail := range []bool{false, true, false, true} {
		checkStep(t, q, fail, api.ErrTwice, "a", "b")
	}
	checkSent(t, q, false, "a")
	checkObject(t, s, "a", "of another one")
	s.Drop("a")
	checkStep(t, q, true, api.ErrFail, "a", "b")
	checkStep(t, q, false, api.OK, "b")
	checkObject(t, s, "a", "mine")
	checkSent(t, q, true, "a")
}

func TestFull(t *testing.T) {
	s := store.New(5)
	put(t, s, "other", "123")
	q := New(s)
	checkAdd(t, q, "a", "456", true)
	checkAdd(t, q, "b", "7", true)
	for _, fail := range []bool{false, true, false, true} {
		checkStep(t, q, fail, api.ErrFull, "a", "b")
	}
	checkSent(t, q, false, "a")
	s.Drop("other")
	checkStep(t, q, true, api.ErrFail, "a", "b")
	checkStep(t, q, false, api.OK, "b")
	checkStep(t, q, false, api.OK)
	checkSent(t, q, true, "a", "b")
	checkObject(t, s, "a", "456")
	checkObject(t, s, "b", "7")
}

func TestOneThatIsThereAlready(t *testing.T) {
	for _, fail := range []bool{false, true} {
		s := store.New(3)
		put(t, s, "a", "123")
		put(t, s, "e", "")
		q := New(s)
		checkAdd(t, q, "a", "123", true)
		checkAdd(t, q, "e", "", true)
		checkSent(t, q, false, "a")
		checkStep(t, q, fail, api.OK, "e")
		checkSent(t, q, true, "a")
		checkStep(t, q, fail, api.OK)
		checkSent(t, q, true, "e", "a")
	}
}

func TestOrderOfErrors(t *testing.T) {
	large := strings.Repeat("x", 65537)
	for _, c := range []struct {
		name, b string
		want    api.Errno
	}{
		{"", large, api.ErrRange},
		{strings.Repeat("x", 41), large, api.ErrRange},
		{"a", large, api.ErrLarge},
		{"a", "12345", api.ErrTwice},
		{"b", "12345", api.ErrFull},
		{"b", "1", api.ErrFail},
	} {
		s := store.New(4)
		put(t, s, "a", "123")
		q := New(s)
		checkAdd(t, q, c.name, c.b, true)
		checkStep(t, q, true, c.want, c.name)
		checkStep(t, q, true, c.want, c.name)
	}
}

func TestSent(t *testing.T) {
	s := store.New(0)
	put(t, s, "by another", "x")
	q := New(s)
	for _, name := range []string{"a", "b", "c"} {
		checkAdd(t, q, name, name, true)
	}
	checkStep(t, q, false, api.OK, "b", "c")
	checkStep(t, q, false, api.OK, "c")
	for _, names := range [][]string{nil, {}, {"a"}, {"b"}, {"a", "b"}, {"b", "a"}, {"a", "a"}, {"b", "a", "b", "b"}} {
		checkSent(t, q, true, names...)
	}
	for _, names := range [][]string{
		{"c"}, {"a", "c"}, {"c", "a"}, {"a", "c", "b"}, {"c", "c"},
		{"by another"}, {"a", "by another"}, {"d"}, {""}, {"a", ""}, {"ab"}, {"A"}, {strings.Repeat("a", 100000)},
	} {
		checkSent(t, q, false, names...)
	}
	s.Drop("a")
	checkSent(t, q, true, "a", "b")
	checkStep(t, q, false, api.OK)
	checkSent(t, q, true, "a", "b", "c")
	checkSent(t, q, false, "a", "b", "c", "by another")
}

func TestTwoQueuesOfOneStore(t *testing.T) {
	s := store.New(0)
	one, two := New(s), New(s)
	checkAdd(t, one, "a", "1", true)
	checkLeft(t, two)
	checkAdd(t, two, "a", "1", true)
	checkStep(t, one, false, api.OK)
	checkSent(t, one, true, "a")
	checkSent(t, two, false, "a")
	checkStep(t, two, true, api.OK)
	checkSent(t, two, true, "a")
}

func TestNilQueue(t *testing.T) {
	var q *Queue
	for _, fail := range []bool{false, true} {
		if e := q.Step(fail); e != api.ErrOff {
			t.Errorf("P13.1: Step of a nil queue: %d", e)
		}
	}
	for _, name := range []string{"", "a", strings.Repeat("x", 41)} {
		if q.Add(name, nil) || q.Add(name, make([]byte, 65537)) || q.Sent(name) {
			t.Error("P13.1: Add or Sent of a nil queue")
		}
	}
	if q.Sent() || q.Sent("a", "b") || q.Left() != nil {
		t.Error("P13.1: Sent or Left of a nil queue")
	}
}

func TestNilStore(t *testing.T) {
	for _, q := range []*Queue{New(nil), {}} {
		if q == nil {
			t.Fatal("P13.1: New of a nil store is nil")
		}
		checkStep(t, q, false, api.ErrNone)
		checkStep(t, q, true, api.ErrNone)
		checkSent(t, q, true)
		checkAdd(t, q, "a", "1", true)
		checkAdd(t, q, "a", "2", false)
		checkAdd(t, q, "", "", true)
		for _, fail := range []bool{false, true, false} {
			checkStep(t, q, fail, api.ErrOff, "a", "")
		}
		checkSent(t, q, true)
		checkSent(t, q, false, "a")
	}
}

func TestWhatIsAddedIsACopy(t *testing.T) {
	s := store.New(0)
	q := New(s)
	room := []byte("mine and spare")
	if !q.Add("m", room[:4]) || q.Add("m", room[:6]) {
		t.Fatal("P13.1: Add")
	}
	if string(room) != "mine and spare" {
		t.Errorf("P0.3: Add changed its argument: %q", room)
	}
	copy(room, "MINE AND SPARE")
	checkStep(t, q, true, api.ErrFail, "m")
	copy(room, "Mine And Spare")
	checkStep(t, q, false, api.OK)
	if string(room) != "Mine And Spare" {
		t.Errorf("P0.3: Step wrote into what Add was handed: %q", room)
	}
	checkObject(t, s, "m", "mine")
	copy(room, "m!ne")
	checkObject(t, s, "m", "mine")
}

func TestWhatIsToldIsACopy(t *testing.T) {
	q := New(store.New(0))
	for i := range 5 {
		checkAdd(t, q, strconv.Itoa(i), "x", true)
	}
	checkStep(t, q, false, api.OK, "1", "2", "3", "4")
	one, two := q.Left(), q.Left()
	one = one[:cap(one)]
	for i := range one {
		one[i] = "z"
	}
	if !slices.Equal(two, []string{"1", "2", "3", "4"}) {
		t.Errorf("P0.3: two answers share memory: %q", two)
	}
	_ = append(two, "z")
	checkAdd(t, q, "5", "x", true)
	checkLeft(t, q, "1", "2", "3", "4", "5")
	if !slices.Equal(two, []string{"1", "2", "3", "4"}) {
		t.Errorf("P0.3: an answer changes with its queue: %q", two)
	}
}

func TestSentLeavesItsNames(t *testing.T) {
	q := New(store.New(0))
	checkAdd(t, q, "a", "", true)
	checkStep(t, q, false, api.OK)
	room := []string{"b", "a", "c", "a"}
	q.Sent(room...)
	q.Sent(room[1:2]...)
	if !slices.Equal(room, []string{"b", "a", "c", "a"}) {
		t.Errorf("P0.3: Sent changed its argument: %q", room)
	}
}

func TestManySteps(t *testing.T) {
	for seed := range int64(100) {
		r := rand.New(rand.NewSource(seed))
		room := []int{0, 3, 10, 40}[seed%4]
		s, twin := store.New(room), store.New(room)
		q, want := New(s), &slow{to: twin}
		for range 400 {
			step(t, r, s, q, want)
		}
		if t.Failed() {
			t.Fatalf("seed %d", seed)
		}
	}
}

// step does one thing with a queue and with what it is held against, or with the stores of both.
func step(t *testing.T, r *rand.Rand, s *store.Store, q *Queue, want *slow) {
	t.Helper()
	name := strconv.Itoa(r.Intn(60))
	if r.Intn(200) == 0 {
		name = strings.Repeat("n", 41)
	}
	b := bytes.Repeat([]byte{byte('0' + r.Intn(2))}, r.Intn(4))
	fail := r.Intn(3) == 0
	switch r.Intn(8) {
	case 0, 1:
		if got, wanted := q.Add(name, b), want.add(name, string(b)); got != wanted {
			t.Errorf("P13.1: Add(%q): %v, not %v", name, got, wanted)
		}
	case 2, 3, 4:
		if got, wanted := q.Step(fail), want.step(fail); got != wanted {
			t.Errorf("P13.1: Step(%v): %d, not %d", fail, got, wanted)
		}
	case 5:
		s.Put(name, b, false)
		want.to.Put(name, b, false)
	default:
		s.Drop(name)
		want.to.Drop(name)
	}
	other := strconv.Itoa(r.Intn(60))
	checkLeft(t, q, want.left()...)
	checkSent(t, q, want.sent(name, other), name, other)
	checkSent(t, q, want.sent(name), name)
	for _, n := range want.to.List("") {
		b, _ := want.to.Get(n)
		checkObject(t, s, n, string(b))
	}
	if !slices.Equal(s.List(""), want.to.List("")) {
		t.Errorf("P13.1: the store has %q, not %q", s.List(""), want.to.List(""))
	}
}

func TestMany(t *testing.T) {
	const many = 50000
	s := store.New(many)
	q := New(s)
	var names []string
	for i := range many {
		names = append(names, strconv.Itoa(i))
		checkAdd(t, q, names[i], "x", true)
	}
	checkLeft(t, q, names...)
	for range many {
		if e := q.Step(false); e != api.OK {
			t.Fatalf("P13.1: Step %d", e)
		}
	}
	checkLeft(t, q)
	checkSent(t, q, true, names...)
	checkAdd(t, q, names[many/2], "y", false)
	checkAdd(t, q, "one more", "x", true)
	checkStep(t, q, false, api.ErrFull, "one more")
	if s.Used() != many {
		t.Errorf("P13.1: the store has %d bytes", s.Used())
	}
}
