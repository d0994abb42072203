package dict

import (
	"math"
	"math/rand"
	"slices"
	"testing"

	"remembrancer/api"
	"remembrancer/mut"
)

// row is a key and its dictionary, as the tests write them.
type row struct {
	k      api.Key
	fields []api.Field
}

// of is a row: behind k each field and its number, one behind the other.
func of(k api.Key, pairs ...int64) row {
	out := row{k: k}
	for i := 0; i+1 < len(pairs); i += 2 {
		out.fields = append(out.fields, api.Field{F: pairs[i], V: pairs[i+1]})
	}
	return out
}

// entry is one PutField that was taken.
type entry struct {
	k    api.Key
	f, n int64
}

// slow is dictionaries by other means than the package's: all that was put and not cut, as it came, gone through from the first on for each question.
type slow struct{ all []entry }

func (s *slow) put(k api.Key, f, n int64) api.Errno {
	if !slices.Contains([]int64{0, 1, 2, 3, 4, 5, 6, 7}, f) {
		return api.ErrRange
	}
	s.all = append(s.all, entry{k, f, n})
	return api.OK
}

func (s *slow) cut(k api.Key, f int64) bool {
	var left []entry
	for _, e := range s.all {
		if e.k != k || e.f != f {
			left = append(left, e)
		}
	}
	there := len(left) < len(s.all)
	s.all = left
	return there
}

// field is the last one put.
func (s *slow) field(k api.Key, f int64) (int64, bool) {
	var n int64
	there := false
	for _, e := range s.all {
		if e.k == k && e.f == f {
			n, there = e.n, true
		}
	}
	return n, there
}

func (s *slow) dict(k api.Key) row {
	out := row{k: k}
	for f := range int64(8) {
		if n, there := s.field(k, f); there {
			out.fields = append(out.fields, api.Field{F: f, V: n})
		}
	}
	return out
}

// rows are all dictionaries, by rising keys.
func (s *slow) rows() []row {
	var out []row
	for _, e := range s.all {
		i := 0
		for i < len(out) && before(out[i].k, e.k) {
			i++
		}
		if i == len(out) || out[i].k != e.k {
			out = slices.Insert(out, i, s.dict(e.k))
		}
	}
	return out
}

// before is the chapter's order, written out once more.
func before(a, b api.Key) bool {
	if a.Group != b.Group {
		return a.Group < b.Group
	}
	if a.Ns != b.Ns {
		return a.Ns < b.Ns
	}
	return a.Id < b.Id
}

// made is dictionaries with these rows, put in this order.
func made(t *testing.T, rows ...row) *Dicts {
	t.Helper()
	d := New()
	for _, x := range rows {
		for _, field := range x.fields {
			checkPut(t, "made", d, x.k, field.F, field.V, api.OK)
		}
	}
	return d
}

// checkAll holds d against all of its dictionaries, by rising keys.
func checkAll(t *testing.T, at string, d *Dicts, want ...row) {
	t.Helper()
	var ks []api.Key
	for _, x := range want {
		ks = append(ks, x.k)
		checkDict(t, at, d, x)
	}
	if got := d.DictKeys(); !slices.Equal(got, ks) {
		t.Errorf("P9.1, %s: DictKeys %v, not %v", at, got, ks)
	}
}

// checkDict asks for all fields at once, and for each by itself.
func checkDict(t *testing.T, at string, d *Dicts, want row) {
	t.Helper()
	if got := d.Dict(want.k); !slices.Equal(got, want.fields) {
		t.Errorf("P9.1, %s: Dict of %v: %v, not %v", at, want.k, got, want.fields)
	}
	for _, f := range append(strangers(), 0, 1, 2, 3, 4, 5, 6, 7) {
		i := slices.IndexFunc(want.fields, func(x api.Field) bool { return x.F == f })
		if i < 0 {
			checkField(t, at, d, want.k, f, 0, false)
		} else {
			checkField(t, at, d, want.k, f, want.fields[i].V, true)
		}
	}
}

func checkField(t *testing.T, at string, d *Dicts, k api.Key, f, want int64, there bool) {
	t.Helper()
	if got, ok := d.Field(k, f); got != want || ok != there {
		t.Errorf("P9.1, %s: Field %d of %v: %d, %t, not %d, %t", at, f, k, got, ok, want, there)
	}
}

func checkPut(t *testing.T, at string, d *Dicts, k api.Key, f, n int64, want api.Errno) {
	t.Helper()
	if got := d.PutField(k, f, n); got != want {
		t.Errorf("P9.1, %s: PutField of %d to %v: %d, not %d", at, f, k, got, want)
	}
}

func checkCut(t *testing.T, at string, d *Dicts, k api.Key, f int64, want bool) {
	t.Helper()
	if got := d.CutField(k, f); got != want {
		t.Errorf("P9.1, %s: CutField of %d of %v: %t, not %t", at, f, k, got, want)
	}
}

// key is a key that KeyOf gives.
func key(t *testing.T, source, k, ns int) api.Key {
	t.Helper()
	out, ok := mut.KeyOf(source, k, ns)
	if !ok {
		t.Fatalf("no key of %d, %d, %d", source, k, ns)
	}
	return out
}

// by is a key of any numbers.
func by(group, ns, id int) api.Key { return api.Key{Group: group, Ns: ns, Id: id} }

// numbers are those at the edges.
func numbers() []int64 {
	return []int64{0, 1, -1, math.MaxInt64, math.MinInt64, 1 << 32, -(1 << 32), 0}
}

// strangers are fields that may not be: those that are one of 0 to 7 in their lowest bits, too.
func strangers() []int64 {
	return []int64{-1, 8, 9, -8, 16, 256, 1<<32 + 3, -(1 << 32), math.MaxInt64, math.MinInt64, math.MinInt64 + 5}
}

// farKeys are keys with numbers that no change may have, too, by rising keys.
func farKeys() []api.Key {
	ns := []int{math.MinInt, -1, 0, 3, math.MaxInt}
	var out []api.Key
	for _, group := range ns {
		for _, space := range ns {
			for _, id := range ns {
				out = append(out, by(group, space, id))
			}
		}
	}
	return out
}

// full is a row of all fields, the number of each f being first and f.
func full(k api.Key, first int64) row {
	var pairs []int64
	for f := range int64(8) {
		pairs = append(pairs, f, first+f)
	}
	return of(k, pairs...)
}

// but is x without its field f.
func but(x row, f int64) row {
	fields := slices.DeleteFunc(slices.Clone(x.fields), func(y api.Field) bool { return y.F == f })
	return row{x.k, fields}
}

func TestNewHasNone(t *testing.T) {
	d := New()
	if d == nil {
		t.Fatal("P9.1: New answered nil")
	}
	checkAll(t, "new", d)
	for _, k := range farKeys() {
		checkDict(t, "new", d, of(k))
		for _, f := range append(strangers(), 0, 7) {
			checkCut(t, "new", d, k, f, false)
		}
	}
	checkAll(t, "new, behind Dict, Field and CutField", d)
}

func TestNewIsNewEachTime(t *testing.T) {
	a, b := New(), New()
	a.PutField(api.Key{}, 1, 5)
	checkAll(t, "the other", b)
	b.PutField(api.Key{}, 1, 6)
	checkAll(t, "the one", a, of(api.Key{}, 1, 5))
}

// TestPutEachField: to a key without a dictionary, and to one that has one with a field ahead, with one behind, with all others.
func TestPutEachField(t *testing.T) {
	k, other := key(t, 1, 3, 0), key(t, 1, 3, 1)
	for f := range int64(8) {
		for _, n := range numbers() {
			d := New()
			checkPut(t, "no dictionary", d, k, f, n, api.OK)
			checkAll(t, "no dictionary", d, of(k, f, n))
			checkDict(t, "its other namespace", d, of(other))
			for more := f + 1; more < 8; more++ {
				two := made(t, of(k, f, n))
				checkPut(t, "one ahead", two, k, more, 70, api.OK)
				checkAll(t, "one ahead", two, of(k, f, n, more, 70))
				two = made(t, of(k, more, 70))
				checkPut(t, "one behind", two, k, f, n, api.OK)
				checkAll(t, "one behind", two, of(k, f, n, more, 70))
			}
			all := made(t, but(full(k, 40), f))
			checkPut(t, "all others", all, k, f, 40+f, api.OK)
			checkAll(t, "all others", all, full(k, 40))
		}
	}
}

// TestPutAgain: the last one put counts, the others stay.
func TestPutAgain(t *testing.T) {
	k, other := key(t, 0, 0, 0), key(t, 2, 7, 1)
	for f := range int64(8) {
		d := made(t, full(k, 100), full(other, 200))
		for _, n := range numbers() {
			checkPut(t, "again", d, k, f, n, api.OK)
			want := full(k, 100)
			want.fields[f].V = n
			checkAll(t, "again", d, want, full(other, 200))
		}
		one := made(t, of(k, f, 9))
		for _, n := range numbers() {
			checkPut(t, "the only one, again", one, k, f, n, api.OK)
			checkAll(t, "the only one, again", one, of(k, f, n))
		}
	}
}

func TestPutOfWhatMayNotBe(t *testing.T) {
	k, other := key(t, 1, 1, 1), key(t, 2, 2, 1)
	for _, f := range strangers() {
		for _, n := range numbers() {
			d := New()
			checkPut(t, "no dictionary", d, k, f, n, api.ErrRange)
			checkAll(t, "no dictionary", d)
			checkDict(t, "no dictionary", d, of(k))
			checkCut(t, "no dictionary", d, k, f, false)
			checkPut(t, "behind it", d, k, 2, n, api.OK)
			checkAll(t, "behind it", d, of(k, 2, n))
			d = made(t, full(other, 3))
			checkPut(t, "another key's dictionary", d, k, f, n, api.ErrRange)
			checkAll(t, "another key's dictionary", d, full(other, 3))
			checkPut(t, "all fields", d, other, f, n, api.ErrRange)
			checkAll(t, "all fields", d, full(other, 3))
		}
	}
}

func TestFieldsOfNumberZero(t *testing.T) {
	k := key(t, 0, 4, 0)
	d := New()
	for f := range int64(8) {
		checkField(t, "not there", d, k, f, 0, false)
		checkPut(t, "zero", d, k, f, 0, api.OK)
		checkField(t, "zero", d, k, f, 0, true)
	}
	checkAll(t, "zeros", d, of(k, 0, 0, 1, 0, 2, 0, 3, 0, 4, 0, 5, 0, 6, 0, 7, 0))
	checkCut(t, "zero", d, k, 5, true)
	checkCut(t, "zero, twice", d, k, 5, false)
	checkAll(t, "zeros but one", d, of(k, 0, 0, 1, 0, 2, 0, 3, 0, 4, 0, 6, 0, 7, 0))
}

func TestCutOfEachField(t *testing.T) {
	k, other := key(t, 0, 0, 0), key(t, 2, 7, 1)
	for f := range int64(8) {
		d := made(t, full(k, 10), full(other, 20))
		checkCut(t, "there", d, k, f, true)
		checkAll(t, "cut", d, but(full(k, 10), f), full(other, 20))
		checkCut(t, "twice in a row", d, k, f, false)
		checkAll(t, "cut twice", d, but(full(k, 10), f), full(other, 20))
		checkPut(t, "behind CutField", d, k, f, 10+f, api.OK)
		checkAll(t, "behind CutField", d, full(k, 10), full(other, 20))
		checkCut(t, "put again", d, k, f, true)
		checkAll(t, "cut again", d, but(full(k, 10), f), full(other, 20))
	}
}

func TestCutOfWhatIsNotThere(t *testing.T) {
	k, never := key(t, 1, 2, 0), key(t, 1, 3, 0)
	for f := range int64(8) {
		d := made(t, but(full(k, 10), f))
		checkCut(t, "a field that never was", d, k, f, false)
		checkCut(t, "a key without a dictionary", d, never, f, false)
		for _, far := range strangers() {
			checkCut(t, "a field that may not be", d, k, far, false)
			checkCut(t, "a field that may not be, no dictionary", d, never, far, false)
		}
		checkAll(t, "nothing was cut", d, but(full(k, 10), f))
	}
}

// TestCutOfTheLastField: in any order, the dictionary is gone with its last field, and may come again.
func TestCutOfTheLastField(t *testing.T) {
	k, other := key(t, 0, 5, 1), key(t, 0, 6, 1)
	r := rand.New(rand.NewSource(9))
	for range 200 {
		d := made(t, full(k, -4), of(other, 3, 3))
		want := full(k, -4)
		for i, f := range r.Perm(8) {
			checkCut(t, "all of them", d, k, int64(f), true)
			want = but(want, int64(f))
			if i < 7 {
				checkAll(t, "all of them", d, want, of(other, 3, 3))
			}
		}
		checkAll(t, "all cut", d, of(other, 3, 3))
		checkDict(t, "all cut", d, of(k))
		checkCut(t, "all cut", d, k, 0, false)
		checkPut(t, "behind all", d, k, 6, 0, api.OK)
		checkAll(t, "behind all", d, of(k, 6, 0), of(other, 3, 3))
		checkCut(t, "the only one", d, k, 6, true)
		checkCut(t, "the other's", d, other, 3, true)
		checkAll(t, "none left", d)
		checkPut(t, "behind none", d, other, 1, 1, api.OK)
		checkAll(t, "behind none", d, of(other, 1, 1))
	}
}

func TestDictByRisingFields(t *testing.T) {
	k := key(t, 2, 1, 0)
	r := rand.New(rand.NewSource(10))
	for range 500 {
		d := New()
		for _, f := range r.Perm(8) {
			checkPut(t, "any order", d, k, int64(f), 30+int64(f), api.OK)
		}
		checkAll(t, "any order", d, full(k, 30))
	}
}

// TestEachNumberOfAKeyCounts: keys that differ in one number alone are not the same.
func TestEachNumberOfAKeyCounts(t *testing.T) {
	k := by(1, 1, 5)
	d := made(t, of(k, 2, 9, 3, 8))
	for _, other := range []api.Key{by(0, 1, 5), by(1, 0, 5), by(1, 1, 4), {}} {
		checkDict(t, "another key", d, of(other))
		checkCut(t, "another key", d, other, 2, false)
	}
	checkAll(t, "another key", d, of(k, 2, 9, 3, 8))
}

// TestDictKeys: the expected lists are written out, so that not even the order's own test is trusted.
func TestDictKeys(t *testing.T) {
	const least, most = math.MinInt, math.MaxInt
	type list = []api.Key
	for _, x := range []struct {
		at        string
		put, want list
	}{
		{"of no key", nil, nil},
		{"of one", list{by(2, 1, 6)}, list{by(2, 1, 6)}},
		{"each once", list{by(0, 0, 4), by(0, 0, 0), by(0, 0, 4), by(0, 0, 4)}, list{by(0, 0, 0), by(0, 0, 4)}},
		{"by Group first", list{by(1, 0, 1), by(0, 1, 20), by(2, 0, 2)}, list{by(0, 1, 20), by(1, 0, 1), by(2, 0, 2)}},
		{"then by Ns", list{by(0, 1, 0), by(0, 0, 20), by(0, 1, 4)}, list{by(0, 0, 20), by(0, 1, 0), by(0, 1, 4)}},
		{"then by Id", list{by(0, 0, 20), by(0, 0, 8), by(0, 0, 12)}, list{by(0, 0, 8), by(0, 0, 12), by(0, 0, 20)}},
		{
			"of any numbers",
			list{by(0, 0, 0), by(most, 0, 0), by(least, 9, 9), by(-1, most, 0), by(-1, least, most), by(-1, least, least)},
			list{by(least, 9, 9), by(-1, least, least), by(-1, least, most), by(-1, most, 0), by(0, 0, 0), by(most, 0, 0)},
		},
	} {
		d := New()
		for i, k := range x.put {
			checkPut(t, x.at, d, k, int64(i), 0, api.OK)
		}
		if got := d.DictKeys(); !slices.Equal(got, x.want) {
			t.Errorf("P9.1, %s: DictKeys %v, not %v", x.at, got, x.want)
		}
	}
}

// TestDictKeysOnlyOfNonEmptyDicts: each way to a dictionary without fields.
func TestDictKeysOnlyOfNonEmptyDicts(t *testing.T) {
	there, gone := key(t, 1, 0, 0), key(t, 0, 2, 0)
	d := made(t, of(there, 0, 0), of(gone, 4, 4, 5, 5))
	d.CutField(gone, 4)
	d.CutField(gone, 5)
	d.CutField(key(t, 0, 3, 0), 0)
	d.PutField(key(t, 0, 4, 0), 8, 1)
	d.Dict(key(t, 0, 5, 0))
	d.Field(key(t, 0, 6, 0), 0)
	checkAll(t, "only of dictionaries that are not empty", d, of(there, 0, 0))
}

func TestManyKeysInAnyOrder(t *testing.T) {
	r := rand.New(rand.NewSource(11))
	want := farKeys()
	for range 20 {
		d := New()
		for _, i := range r.Perm(len(want)) {
			checkPut(t, "many", d, want[i], 6, int64(i), api.OK)
			checkPut(t, "many", d, want[i], 1, -int64(i), api.OK)
		}
		got := d.DictKeys()
		if !slices.Equal(got, want) {
			t.Fatalf("P9.1: DictKeys %v", got)
		}
		for i := range len(got) - 1 {
			if !mut.Less(got[i], got[i+1]) {
				t.Fatalf("P9.1: not by mut.Less: %v", got)
			}
		}
		for i, k := range want {
			checkDict(t, "many", d, of(k, 1, -int64(i), 6, int64(i)))
		}
	}
}

// scribble writes over all of fields, spare room too.
func scribble(fields []api.Field) {
	fields = fields[:cap(fields)]
	for i := range fields {
		fields[i] = api.Field{F: -77, V: -77}
	}
}

// TestToldDictsAreTheCallersOwn: of each number of fields.
func TestToldDictsAreTheCallersOwn(t *testing.T) {
	k := key(t, 0, 1, 0)
	for n := range int64(8) {
		want := row{k, full(k, 60).fields[:n+1]}
		d := made(t, want)
		first, second := d.Dict(k), d.Dict(k)
		scribble(first)
		if !slices.Equal(second, want.fields) {
			t.Errorf("P0.3: another answer changed: %v", second)
		}
		checkAll(t, "an answer written over", d, want)
		scribble(append(second, api.Field{}))
		checkAll(t, "an answer appended to", d, want)
		held := d.Dict(k)
		d.PutField(k, 0, 500)
		d.CutField(k, n)
		d.PutField(k, 7, 600)
		if !slices.Equal(held, want.fields) {
			t.Errorf("P0.3: an answer changed behind its call: %v", held)
		}
	}
}

// TestSpareRoomOfAnAnswerStaysTheCallers: what the caller put into it is not written over by a later PutField.
func TestSpareRoomOfAnAnswerStaysTheCallers(t *testing.T) {
	k := key(t, 0, 1, 0)
	for n := 1; n < 8; n++ {
		want := full(k, 0).fields[:n:n]
		d := made(t, row{k, want})
		mine := append(d.Dict(k), api.Field{F: 44, V: 44})
		d.PutField(k, int64(n), int64(n))
		if mine[n] != (api.Field{F: 44, V: 44}) {
			t.Errorf("P0.3: the caller's field behind %d is %v", n, mine[n])
		}
		checkAll(t, "an answer's room", d, row{k, full(k, 0).fields[:n+1]})
	}
}

func TestToldKeysAreTheCallersOwn(t *testing.T) {
	a, b := key(t, 0, 1, 0), key(t, 0, 2, 0)
	d := made(t, of(b, 2, 2), of(a, 1, 1))
	first, second := d.DictKeys(), d.DictKeys()
	whole := first[:cap(first)]
	for i := range whole {
		whole[i] = by(9, 9, 9)
	}
	if !slices.Equal(second, []api.Key{a, b}) {
		t.Errorf("P0.3: another answer changed: %v", second)
	}
	checkAll(t, "keys written over", d, of(a, 1, 1), of(b, 2, 2))
	held := d.DictKeys()
	d.CutField(a, 1)
	d.PutField(by(-1, 0, 0), 3, 3)
	if !slices.Equal(held, []api.Key{a, b}) {
		t.Errorf("P0.3: an answer changed behind its call: %v", held)
	}
}

func TestNilDicts(t *testing.T) {
	var d *Dicts
	for _, k := range farKeys() {
		for f := range int64(8) {
			checkPut(t, "nil", d, k, f, 1, api.ErrOff)
			checkCut(t, "nil", d, k, f, false)
		}
		for _, f := range strangers() {
			checkPut(t, "nil", d, k, f, 1, api.ErrOff)
			checkCut(t, "nil", d, k, f, false)
		}
		checkDict(t, "nil", d, of(k))
		if got := d.Dict(k); got != nil {
			t.Errorf("P9.1: Dict of nil: %v", got)
		}
	}
	if got := d.DictKeys(); got != nil {
		t.Errorf("P9.1: DictKeys of nil: %v", got)
	}
}

func TestZeroDicts(t *testing.T) {
	var d Dicts
	k := key(t, 2, 0, 1)
	checkAll(t, "zero", &d)
	checkDict(t, "zero", &d, of(k))
	checkCut(t, "zero", &d, k, 0, false)
	checkPut(t, "zero", &d, k, 8, 1, api.ErrRange)
	checkAll(t, "zero", &d)
	checkPut(t, "zero", &d, k, 4, -8, api.OK)
	checkAll(t, "zero, put", &d, of(k, 4, -8))
}

// TestManySteps holds d against the slow one, and against a twin that is told the same and asked at other times.
func TestManySteps(t *testing.T) {
	for seed := range int64(20) {
		r := rand.New(rand.NewSource(seed))
		d, twin, want := New(), New(), &slow{}
		for range 400 {
			step(t, r, d, twin, want)
			checkAll(t, "a step", d, want.rows()...)
		}
		checkAll(t, "the twin", twin, want.rows()...)
	}
}

func step(t *testing.T, r *rand.Rand, d, twin *Dicts, want *slow) {
	t.Helper()
	k := by(r.Intn(2)-1, r.Intn(2), r.Intn(2)-1)
	f := r.Int63n(10) - 1
	if r.Intn(2) == 0 {
		there := want.cut(k, f)
		checkCut(t, "a step", d, k, f, there)
		checkCut(t, "a twin's step", twin, k, f, there)
		return
	}
	n := numbers()[r.Intn(len(numbers()))]
	e := want.put(k, f, n)
	checkPut(t, "a step", d, k, f, n, e)
	checkPut(t, "a twin's step", twin, k, f, n, e)
}

func TestVeryManyKeys(t *testing.T) {
	const many = 100000
	d := New()
	for i := range many {
		d.PutField(by(0, 0, (i*7919)%many), int64(i%8), int64(i))
	}
	ks := d.DictKeys()
	if len(ks) != many {
		t.Fatalf("P9.1: %d keys, not %d", len(ks), many)
	}
	for i, k := range ks {
		if k.Id != i {
			t.Fatalf("P9.1: key %d is %v", i, k)
		}
	}
	for i := range many {
		checkCut(t, "many", d, by(0, 0, (i*7919)%many), int64(i%8), true)
	}
	checkAll(t, "many cut", d)
}
