package list

import (
	"math"
	"math/rand"
	"slices"
	"testing"

	"remembrancer/api"
	"remembrancer/mut"
)

// row is a key and its list, as the tests write them.
type row struct {
	k  api.Key
	ns []int64
}

// of is a row.
func of(k api.Key, ns ...int64) row { return row{k, ns} }

// entry is one number of one list.
type entry struct {
	k api.Key
	n int64
}

// slow is lists by other means than the package's: all numbers of all lists as they came, gone through from the first on for each question.
type slow struct{ all []entry }

func (s *slow) list(k api.Key) []int64 {
	var out []int64
	for _, e := range s.all {
		if e.k == k {
			out = append(out, e.n)
		}
	}
	return out
}

func (s *slow) push(k api.Key, ns ...int64) api.Errno {
	if len(s.list(k))+len(ns) > 100 {
		return api.ErrFull
	}
	for _, n := range ns {
		s.all = append(s.all, entry{k, n})
	}
	return api.OK
}

func (s *slow) clear(k api.Key) int {
	var left []entry
	for _, e := range s.all {
		if e.k != k {
			left = append(left, e)
		}
	}
	were := len(s.all) - len(left)
	s.all = left
	return were
}

// rows are all lists, by rising keys.
func (s *slow) rows() []row {
	var out []row
	for _, e := range s.all {
		i := 0
		for i < len(out) && before(out[i].k, e.k) {
			i++
		}
		if i == len(out) || out[i].k != e.k {
			out = slices.Insert(out, i, of(e.k, s.list(e.k)...))
		}
	}
	return out
}

// before is the chapter's order, written out once more.
func before(a, b api.Key) bool {
	if a.Group != b.Group {
		return a.Group < b.Group
	}
	if a.Ns != b.Ns {
		return a.Ns < b.Ns
	}
	return a.Id < b.Id
}

// made is lists with these rows, pushed in this order.
func made(t *testing.T, rows ...row) *Lists {
	t.Helper()
	l := New()
	for _, x := range rows {
		checkPush(t, "made", l, x.k, api.OK, x.ns...)
	}
	return l
}

// checkAll holds l against all of its lists, by rising keys.
func checkAll(t *testing.T, at string, l *Lists, want ...row) {
	t.Helper()
	var ks []api.Key
	for _, x := range want {
		ks = append(ks, x.k)
		checkList(t, at, l, x.k, x.ns...)
	}
	if got := l.ListKeys(); !slices.Equal(got, ks) {
		t.Errorf("P8.1, %s: ListKeys %v, not %v", at, got, ks)
	}
}

func checkList(t *testing.T, at string, l *Lists, k api.Key, want ...int64) {
	t.Helper()
	if got := l.List(k); !slices.Equal(got, want) {
		t.Errorf("P8.1, %s: List of %v: %v, not %v", at, k, got, want)
	}
}

func checkPush(t *testing.T, at string, l *Lists, k api.Key, want api.Errno, ns ...int64) {
	t.Helper()
	if got := l.Push(k, ns...); got != want {
		t.Errorf("P8.1, %s: Push of %d numbers to %v: %d, not %d", at, len(ns), k, got, want)
	}
}

func checkClear(t *testing.T, at string, l *Lists, k api.Key, want int) {
	t.Helper()
	if got := l.Clear(k); got != want {
		t.Errorf("P8.1, %s: Clear of %v: %d, not %d", at, k, got, want)
	}
}

// key is a key that KeyOf gives.
func key(t *testing.T, source, k, ns int) api.Key {
	t.Helper()
	out, ok := mut.KeyOf(source, k, ns)
	if !ok {
		t.Fatalf("no key of %d, %d, %d", source, k, ns)
	}
	return out
}

// by is a key of any numbers.
func by(group, ns, id int) api.Key { return api.Key{Group: group, Ns: ns, Id: id} }

// numbers are those at the edges.
func numbers() []int64 {
	return []int64{0, 1, -1, math.MaxInt64, math.MinInt64, 1 << 32, -(1 << 32), 0}
}

// count is n numbers, each another one, from first on.
func count(first int64, n int) []int64 {
	out := make([]int64, n)
	for i := range out {
		out[i] = first + int64(i)
	}
	return out
}

// farKeys are keys with numbers that no change may have, too, by rising keys.
func farKeys() []api.Key {
	ns := []int{math.MinInt, -1, 0, 3, math.MaxInt}
	var out []api.Key
	for _, group := range ns {
		for _, space := range ns {
			for _, id := range ns {
				out = append(out, by(group, space, id))
			}
		}
	}
	return out
}

func TestNewHasNone(t *testing.T) {
	l := New()
	if l == nil {
		t.Fatal("P8.1: New answered nil")
	}
	checkAll(t, "new", l)
	for _, k := range farKeys() {
		checkList(t, "new", l, k)
		checkClear(t, "new", l, k, 0)
		checkPush(t, "new, no number", l, k, api.OK)
		checkList(t, "new, no number", l, k)
	}
	checkAll(t, "new, behind Clear and Push of no number", l)
}

func TestNewIsNewEachTime(t *testing.T) {
	a, b := New(), New()
	a.Push(api.Key{}, 1)
	checkAll(t, "the other", b)
	b.Push(api.Key{}, 2)
	checkAll(t, "the one", a, of(api.Key{}, 1))
}

func TestPush(t *testing.T) {
	k, other := key(t, 1, 3, 0), key(t, 1, 3, 1)
	l := New()
	checkPush(t, "no number, no list", l, k, api.OK)
	checkPush(t, "an empty list of numbers, no list", l, k, api.OK, []int64{}...)
	checkAll(t, "no number, no list", l)
	checkPush(t, "one, no list", l, k, api.OK, 7)
	checkAll(t, "one, no list", l, of(k, 7))
	checkPush(t, "no number, a list", l, k, api.OK)
	checkAll(t, "no number, a list", l, of(k, 7))
	checkPush(t, "one, a list", l, k, api.OK, 5)
	checkAll(t, "one, a list", l, of(k, 7, 5))
	checkPush(t, "many, a list", l, k, api.OK, numbers()...)
	checkAll(t, "many, a list", l, of(k, append([]int64{7, 5}, numbers()...)...))
	checkPush(t, "many, no list", l, other, api.OK, numbers()...)
	checkAll(t, "many, no list", l, of(k, append([]int64{7, 5}, numbers()...)...), of(other, numbers()...))
}

// TestPushKeepsEqualNumbers: a number that is there already is put behind as well.
func TestPushKeepsEqualNumbers(t *testing.T) {
	k := key(t, 0, 0, 0)
	l := made(t, of(k, 3, 3), of(k, 3), of(k, 0, 0), of(k, 3))
	checkAll(t, "equal numbers", l, of(k, 3, 3, 3, 0, 0, 3))
}

func TestHundredOneByOne(t *testing.T) {
	k := key(t, 2, 5, 1)
	l := New()
	want := count(1, 100)
	for i, n := range want {
		checkPush(t, "one by one", l, k, api.OK, n)
		checkList(t, "one by one", l, k, want[:i+1]...)
	}
	checkFull(t, "one by one", l, k, want)
}

func TestHundredAtOnce(t *testing.T) {
	k := key(t, 2, 5, 1)
	l := New()
	checkPush(t, "a hundred at once", l, k, api.OK, count(1, 100)...)
	checkFull(t, "a hundred at once", l, k, count(1, 100))
}

// checkFull: k's list takes no number more, its neighbours take some.
func checkFull(t *testing.T, at string, l *Lists, k api.Key, want []int64) {
	t.Helper()
	for _, more := range []int{1, 2, 99, 100, 101, 5000} {
		checkPush(t, at+", full", l, k, api.ErrFull, count(900, more)...)
		checkAll(t, at+", full", l, of(k, want...))
	}
	checkPush(t, at+", full, no number", l, k, api.OK)
	checkAll(t, at+", full, no number", l, of(k, want...))
	other := by(k.Group, k.Ns, k.Id+1)
	checkPush(t, at+", another key", l, other, api.OK, count(0, 100)...)
	checkAll(t, at+", another key", l, of(k, want...), of(other, count(0, 100)...))
	checkClear(t, at, l, k, 100)
	checkPush(t, at+", cleared", l, k, api.OK, count(50, 100)...)
	checkAll(t, at+", again", l, of(k, count(50, 100)...), of(other, count(0, 100)...))
}

// TestRoom: at each length of a list, as many as there is room for, and one more.
func TestRoom(t *testing.T) {
	k := key(t, 1, 1, 1)
	for have := range 101 {
		l := New()
		checkPush(t, "what it has", l, k, api.OK, count(0, have)...)
		checkPush(t, "one too many", l, k, api.ErrFull, count(500, 101-have)...)
		checkList(t, "one too many", l, k, count(0, have)...)
		checkPush(t, "all it has room for", l, k, api.OK, count(int64(have), 100-have)...)
		checkAll(t, "all it has room for", l, of(k, count(0, 100)...))
	}
}

func TestTooManyAtOnceMakeNoList(t *testing.T) {
	k := key(t, 0, 6, 0)
	for _, many := range []int{101, 102, 200, 100000} {
		l := New()
		checkPush(t, "too many at once", l, k, api.ErrFull, count(0, many)...)
		checkAll(t, "too many at once", l)
		checkList(t, "too many at once", l, k)
		checkClear(t, "too many at once", l, k, 0)
		checkPush(t, "behind too many", l, k, api.OK, 8)
		checkAll(t, "behind too many", l, of(k, 8))
	}
}

func TestClear(t *testing.T) {
	a, b := key(t, 0, 0, 0), key(t, 2, 7, 1)
	for _, have := range []int{1, 2, 3, 99, 100} {
		l := made(t, of(a, count(0, have)...), of(b, 5, 6))
		checkClear(t, "one that has a list", l, a, have)
		checkAll(t, "cleared", l, of(b, 5, 6))
		if got := l.List(a); len(got) != 0 {
			t.Errorf("P8.1: List behind Clear: %v", got)
		}
		checkClear(t, "twice in a row", l, a, 0)
		checkAll(t, "cleared twice", l, of(b, 5, 6))
		checkPush(t, "no number behind Clear", l, a, api.OK)
		checkAll(t, "no number behind Clear", l, of(b, 5, 6))
		checkPush(t, "behind Clear", l, a, api.OK, 0)
		checkAll(t, "behind Clear", l, of(a, 0), of(b, 5, 6))
		checkClear(t, "again", l, a, 1)
		checkClear(t, "the last one", l, b, 2)
		checkAll(t, "all cleared", l)
		checkClear(t, "all cleared", l, b, 0)
	}
}

// TestEachNumberOfAKeyCounts: keys that differ in one number alone are not the same.
func TestEachNumberOfAKeyCounts(t *testing.T) {
	k := by(1, 1, 5)
	l := made(t, of(k, 9, 8))
	for _, other := range []api.Key{by(0, 1, 5), by(1, 0, 5), by(1, 1, 4), {}} {
		checkList(t, "another key", l, other)
		checkClear(t, "another key", l, other, 0)
	}
	checkAll(t, "another key", l, of(k, 9, 8))
}

// TestListKeys: the expected lists are written out, so that not even the order's own test is trusted.
func TestListKeys(t *testing.T) {
	const least, most = math.MinInt, math.MaxInt
	type list = []api.Key
	for _, x := range []struct {
		at         string
		push, want list
	}{
		{"of no key", nil, nil},
		{"of one", list{by(2, 1, 6)}, list{by(2, 1, 6)}},
		{"each once", list{by(0, 0, 4), by(0, 0, 0), by(0, 0, 4), by(0, 0, 4)}, list{by(0, 0, 0), by(0, 0, 4)}},
		{"by Group first", list{by(1, 0, 1), by(0, 1, 20), by(2, 0, 2)}, list{by(0, 1, 20), by(1, 0, 1), by(2, 0, 2)}},
		{"then by Ns", list{by(0, 1, 0), by(0, 0, 20), by(0, 1, 4)}, list{by(0, 0, 20), by(0, 1, 0), by(0, 1, 4)}},
		{"then by Id", list{by(0, 0, 20), by(0, 0, 8), by(0, 0, 12)}, list{by(0, 0, 8), by(0, 0, 12), by(0, 0, 20)}},
		{
			"of any numbers",
			list{by(0, 0, 0), by(most, 0, 0), by(least, 9, 9), by(-1, most, 0), by(-1, least, most), by(-1, least, least)},
			list{by(least, 9, 9), by(-1, least, least), by(-1, least, most), by(-1, most, 0), by(0, 0, 0), by(most, 0, 0)},
		},
	} {
		l := New()
		for _, k := range x.push {
			checkPush(t, x.at, l, k, api.OK, 0)
		}
		if got := l.ListKeys(); !slices.Equal(got, x.want) {
			t.Errorf("P8.1, %s: ListKeys %v, not %v", x.at, got, x.want)
		}
	}
}

// TestListKeysOnlyOfNonEmptyLists: each way to a list without numbers.
func TestListKeysOnlyOfNonEmptyLists(t *testing.T) {
	there := key(t, 1, 0, 0)
	l := made(t, of(there, 0), of(key(t, 0, 1, 0)), of(key(t, 0, 2, 0), 4))
	l.Clear(key(t, 0, 2, 0))
	l.Clear(key(t, 0, 3, 0))
	l.Push(key(t, 0, 4, 0), count(0, 101)...)
	l.List(key(t, 0, 5, 0))
	checkAll(t, "only of lists that are not empty", l, of(there, 0))
}

func TestManyKeysInAnyOrder(t *testing.T) {
	r := rand.New(rand.NewSource(8))
	want := farKeys()
	for range 20 {
		l := New()
		for _, i := range r.Perm(len(want)) {
			checkPush(t, "many", l, want[i], api.OK, int64(i), -int64(i))
		}
		got := l.ListKeys()
		if !slices.Equal(got, want) {
			t.Fatalf("P8.1: ListKeys %v", got)
		}
		for i := range len(got) - 1 {
			if !mut.Less(got[i], got[i+1]) {
				t.Fatalf("P8.1: not by mut.Less: %v", got)
			}
		}
		for i, k := range want {
			checkList(t, "many", l, k, int64(i), -int64(i))
		}
	}
}

// scribble writes over all of b, spare room too.
func scribble(b []int64) {
	b = b[:cap(b)]
	for i := range b {
		b[i] = -77
	}
}

// TestWhatIsHandedInStaysTheCallers: to a key with a list and to one without, with spare room and without.
func TestWhatIsHandedInStaysTheCallers(t *testing.T) {
	k := key(t, 0, 1, 0)
	for _, first := range []int{0, 1, 3} {
		for _, room := range []int{0, 1, 50} {
			l := New()
			l.Push(k, count(0, first)...)
			whole := count(100, 4+room)
			in := whole[:4]
			checkPush(t, "handed in", l, k, api.OK, in...)
			checkPush(t, "behind it", l, k, api.OK, 55)
			if !slices.Equal(whole, count(100, 4+room)) {
				t.Errorf("P0.3: what was handed in changed: %v", whole)
			}
			want := append(append(count(0, first), 100, 101, 102, 103), 55)
			scribble(in)
			checkAll(t, "handed in, written over", l, of(k, want...))
		}
	}
}

// TestOneListHandedInTwice: two keys that were given the same numbers have each their own.
func TestOneListHandedInTwice(t *testing.T) {
	a, b := key(t, 0, 1, 0), key(t, 0, 2, 0)
	in := count(1, 3)
	l := made(t, of(a, in...), of(b, in...))
	l.Push(a, 7)
	l.Push(b, 8)
	checkAll(t, "handed in twice", l, of(a, 1, 2, 3, 7), of(b, 1, 2, 3, 8))
	checkClear(t, "handed in twice", l, a, 4)
	l.Push(a, 9, 9)
	checkAll(t, "handed in twice, one cleared", l, of(a, 9, 9), of(b, 1, 2, 3, 8))
}

func TestToldListsAreTheCallersOwn(t *testing.T) {
	k := key(t, 0, 1, 0)
	for n := range 100 {
		l := made(t, of(k, count(0, n)...), of(k, int64(n)))
		want := count(0, n+1)
		first, second := l.List(k), l.List(k)
		scribble(first)
		if !slices.Equal(second, want) {
			t.Errorf("P0.3: another answer changed: %v", second)
		}
		checkAll(t, "an answer written over", l, of(k, want...))
		scribble(append(second, 9))
		checkAll(t, "an answer appended to", l, of(k, want...))
		held := l.List(k)
		if n < 99 {
			l.Push(k, 500)
		}
		l.Clear(k)
		l.Push(k, 600, 601)
		if !slices.Equal(held, want) {
			t.Errorf("P0.3: an answer changed behind its call: %v", held)
		}
	}
}

// TestSpareRoomOfAnAnswerStaysTheCallers: what the caller put into it is not written over by a later Push.
func TestSpareRoomOfAnAnswerStaysTheCallers(t *testing.T) {
	k := key(t, 0, 1, 0)
	for n := 1; n < 100; n++ {
		l := made(t, of(k, count(0, n)...))
		mine := append(l.List(k), 4444)
		l.Push(k, 5)
		if mine[n] != 4444 {
			t.Errorf("P0.3: the caller's number behind %d is %d", n, mine[n])
		}
		checkAll(t, "an answer's room", l, of(k, append(count(0, n), 5)...))
	}
}

func TestToldKeysAreTheCallersOwn(t *testing.T) {
	a, b := key(t, 0, 1, 0), key(t, 0, 2, 0)
	l := made(t, of(b, 2), of(a, 1))
	first, second := l.ListKeys(), l.ListKeys()
	whole := first[:cap(first)]
	for i := range whole {
		whole[i] = by(9, 9, 9)
	}
	if !slices.Equal(second, []api.Key{a, b}) {
		t.Errorf("P0.3: another answer changed: %v", second)
	}
	checkAll(t, "keys written over", l, of(a, 1), of(b, 2))
	held := l.ListKeys()
	l.Clear(a)
	l.Push(by(-1, 0, 0), 3)
	if !slices.Equal(held, []api.Key{a, b}) {
		t.Errorf("P0.3: an answer changed behind its call: %v", held)
	}
}

func TestNilLists(t *testing.T) {
	var l *Lists
	for _, k := range farKeys() {
		checkPush(t, "nil", l, k, api.ErrOff)
		checkPush(t, "nil", l, k, api.ErrOff, numbers()...)
		// Without lists there is none that would have too many.
		checkPush(t, "nil", l, k, api.ErrOff, count(0, 101)...)
		checkClear(t, "nil", l, k, 0)
		if got := l.List(k); got != nil {
			t.Errorf("P8.1: List of nil: %v", got)
		}
	}
	if got := l.ListKeys(); got != nil {
		t.Errorf("P8.1: ListKeys of nil: %v", got)
	}
}

func TestZeroLists(t *testing.T) {
	var l Lists
	k := key(t, 2, 0, 1)
	checkAll(t, "zero", &l)
	checkList(t, "zero", &l, k)
	checkClear(t, "zero", &l, k, 0)
	checkPush(t, "zero", &l, k, api.ErrFull, count(0, 101)...)
	checkPush(t, "zero", &l, k, api.OK)
	checkPush(t, "zero", &l, k, api.OK, -8, 4)
	checkAll(t, "zero, pushed", &l, of(k, -8, 4))
}

// TestManySteps holds l against the slow one, and against a twin that is told the same and asked at other times.
func TestManySteps(t *testing.T) {
	for seed := range int64(20) {
		r := rand.New(rand.NewSource(seed))
		l, twin, want := New(), New(), &slow{}
		for range 400 {
			step(t, r, l, twin, want)
			checkAll(t, "a step", l, want.rows()...)
		}
		checkAll(t, "the twin", twin, want.rows()...)
	}
}

func step(t *testing.T, r *rand.Rand, l, twin *Lists, want *slow) {
	t.Helper()
	k := by(r.Intn(2)-1, r.Intn(2), r.Intn(3)-2)
	if r.Intn(10) == 0 {
		were := want.clear(k)
		checkClear(t, "a step", l, k, were)
		checkClear(t, "a twin's step", twin, k, were)
		return
	}
	ns := count(r.Int63n(1000)-500, r.Intn(4)*r.Intn(12))
	e := want.push(k, ns...)
	checkPush(t, "a step", l, k, e, ns...)
	checkPush(t, "a twin's step", twin, k, e, ns...)
}

func TestVeryManyKeys(t *testing.T) {
	const many = 100000
	l := New()
	for i := range many {
		l.Push(by(0, 0, (i*7919)%many), int64(i), 1)
	}
	for i, k := range l.ListKeys() {
		if k.Id != i {
			t.Fatalf("P8.1: key %d is %v", i, k)
		}
	}
	for i := range many {
		checkClear(t, "many", l, by(0, 0, i), 2)
	}
	checkAll(t, "many cleared", l)
}
