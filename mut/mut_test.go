package mut

import (
	"bytes"
	"encoding/binary"
	"math"
	"math/rand"
	"slices"
	"testing"

	"remembrancer/api"
)

// shape is what the chapter says of a kind: the greatest F, whether F and V are written.
type shape struct {
	mostF int64
	f, v  bool
}

// shapes is a table of its own, so that a mistake in the package's is not made again here.
func shapes() map[int]shape {
	return map[int]shape{
		1: {0, false, true},
		2: {0, false, false},
		3: {0, false, true},
		4: {0, false, false},
		5: {7, true, true},
		6: {7, true, false},
	}
}

// slowMay is May by a list of all that F may be and all that the key may be.
func slowMay(m api.Mut) bool {
	s, ok := shapes()[m.Kind]
	if !ok || m.F < 0 || m.F > s.mostF || !s.v && m.V != 0 {
		return false
	}
	for id := range 24 {
		for group := range 4 {
			if m.Key == (api.Key{Group: group, Ns: 0, Id: id}) || m.Key == (api.Key{Group: group, Ns: 1, Id: id}) {
				return true
			}
		}
	}
	return false
}

// slowPut writes changes as the chapter says, by other means than the package's.
func slowPut(b []byte, ms ...api.Mut) []byte {
	out := bytes.Clone(b)
	for _, m := range ms {
		if !slowMay(m) {
			continue
		}
		for _, n := range []int{m.Kind, m.Key.Group, m.Key.Ns, m.Key.Id} {
			out = binary.AppendUvarint(out, uint64(n))
		}
		if shapes()[m.Kind].f {
			out = binary.AppendUvarint(out, uint64(m.F))
		}
		if shapes()[m.Kind].v {
			out = binary.AppendVarint(out, m.V)
		}
	}
	return out
}

// slowNumber takes a number from b, and holds what it took against what would have been written.
func slowNumber(b []byte) (uint64, int, api.Errno) {
	end := slices.IndexFunc(b[:min(len(b), 10)], func(c byte) bool { return c < 128 })
	if end < 0 && len(b) < 10 {
		return 0, 0, api.ErrTorn
	}
	n, took := binary.Uvarint(b[:end+1])
	if took <= 0 || !bytes.Equal(binary.AppendUvarint(nil, n), b[:took]) {
		return 0, 0, api.ErrForm
	}
	return n, took, api.OK
}

// slowGet reads a change into a list of numbers first, then looks for the change that is written so.
func slowGet(b []byte) (api.Mut, int, api.Errno) {
	var ns []uint64
	took, want := 0, 4
	for len(ns) < want {
		n, k, e := slowNumber(b[took:])
		if e != api.OK {
			return api.Mut{}, 0, e
		}
		ns, took = append(ns, n), took+k
		if len(ns) == 1 && n <= 6 {
			want = []int{4, 5, 4, 5, 4, 6, 5}[n]
		}
	}
	if slices.Max(ns[:4]) > 23 {
		return api.Mut{}, 0, api.ErrForm
	}
	m := api.Mut{Kind: int(ns[0]), Key: api.Key{Group: int(ns[1]), Ns: int(ns[2]), Id: int(ns[3])}}
	if shapes()[m.Kind].f && ns[4] > 7 {
		return api.Mut{}, 0, api.ErrForm
	}
	if shapes()[m.Kind].f {
		m.F = int64(ns[4])
	}
	if shapes()[m.Kind].v {
		m.V, _ = binary.Varint(b[took-len(binary.AppendUvarint(nil, ns[want-1])):])
	}
	if !slowMay(m) {
		return api.Mut{}, 0, api.ErrForm
	}
	return m, took, api.OK
}

// at is a change of that kind at a key that may be.
func at(kind int, f, v int64) api.Mut {
	return api.Mut{Kind: kind, Key: api.Key{Group: 1, Ns: 1, Id: 5}, F: f, V: v}
}

func keyed(group, ns, id int) api.Mut {
	return api.Mut{Kind: api.MSet, Key: api.Key{Group: group, Ns: ns, Id: id}}
}

func join(parts ...[]byte) []byte {
	return bytes.Join(parts, nil)
}

// uvar is n as num.Put writes it.
func uvar(n uint64) []byte {
	return binary.AppendUvarint(nil, n)
}

// checkGet holds one answer of Get against what is wanted.
func checkGet(t *testing.T, name string, b []byte, m api.Mut, n int, e api.Errno) {
	t.Helper()
	gotM, gotN, gotE := Get(b)
	if gotM != m || gotN != n || gotE != e {
		t.Errorf("P6.1: Get, %s, of %x: %v, %d, %d, not %v, %d, %d", name, b, gotM, gotN, gotE, m, n, e)
	}
}

func TestMayKinds(t *testing.T) {
	for kind := -3; kind <= 20; kind++ {
		want := 1 <= kind && kind <= 6
		if got := May(at(kind, 0, 0)); got != want {
			t.Errorf("P6.1: May of kind %d: %t", kind, got)
		}
	}
	for _, kind := range []int{math.MinInt, math.MinInt + 1, math.MaxInt, 1 << 32, 1<<32 + 1, 257, -1, -255} {
		if May(at(kind, 0, 0)) {
			t.Errorf("P6.1: May of kind %d", kind)
		}
	}
	if May(api.Mut{}) {
		t.Error("P6.1: May of no change")
	}
}

func TestMayKeys(t *testing.T) {
	for _, c := range []struct {
		group, ns, id int
		want          bool
	}{
		{0, 0, 0, true}, {3, 0, 0, true}, {4, 0, 0, false}, {-1, 0, 0, false},
		{0, 1, 0, true}, {0, 2, 0, false}, {0, -1, 0, false},
		{0, 0, 23, true}, {0, 0, 24, false}, {0, 0, -1, false},
		{3, 1, 23, true}, {4, 1, 23, false}, {3, 2, 23, false}, {3, 1, 24, false},
		{2, 1, 5, true}, // not the group that KeyOf gives this id
		{math.MaxInt, 0, 0, false}, {math.MinInt, 0, 0, false},
		{0, math.MaxInt, 0, false}, {0, math.MinInt, 0, false},
		{0, 0, math.MaxInt, false}, {0, 0, math.MinInt, false},
		{1 << 32, 1 << 32, 1 << 32, false},
	} {
		for kind := 1; kind <= 6; kind++ {
			m := keyed(c.group, c.ns, c.id)
			m.Kind = kind
			if got := May(m); got != c.want {
				t.Errorf("P6.1: May of %v: %t", m, got)
			}
		}
	}
}

func TestMayFieldsAndValues(t *testing.T) {
	numbers := []int64{math.MinInt64, math.MinInt64 + 1, -1 << 32, -8, -1, 0, 1, 2, 6, 7, 8, 9, 1 << 32, math.MaxInt64}
	for kind := 1; kind <= 6; kind++ {
		for _, n := range numbers {
			wantF := n == 0 || (kind == 5 || kind == 6) && n > 0 && n < 8
			if got := May(at(kind, n, 0)); got != wantF {
				t.Errorf("P6.1: May of kind %d with F %d: %t", kind, n, got)
			}
			wantV := n == 0 || kind == 1 || kind == 3 || kind == 5
			if got := May(at(kind, 0, n)); got != wantV {
				t.Errorf("P6.1: May of kind %d with V %d: %t", kind, n, got)
			}
			if got := May(at(kind, n, n)); got != (wantF && wantV) {
				t.Errorf("P6.1: May of kind %d with F and V %d: %t", kind, n, got)
			}
		}
	}
}

func TestPutKnownBytes(t *testing.T) {
	for i, c := range []struct {
		b    []byte
		ms   []api.Mut
		want []byte
	}{
		{nil, nil, nil},
		{[]byte{}, []api.Mut{}, nil},
		{[]byte{9, 8}, nil, []byte{9, 8}},
		{nil, []api.Mut{at(1, 0, 0)}, []byte{1, 1, 1, 5, 0}},
		{nil, []api.Mut{at(1, 0, -1)}, []byte{1, 1, 1, 5, 1}},
		{nil, []api.Mut{at(1, 0, 64)}, []byte{1, 1, 1, 5, 128, 1}},
		{nil, []api.Mut{at(2, 0, 0)}, []byte{2, 1, 1, 5}},
		{nil, []api.Mut{at(3, 0, 3)}, []byte{3, 1, 1, 5, 6}},
		{nil, []api.Mut{at(4, 0, 0)}, []byte{4, 1, 1, 5}},
		{nil, []api.Mut{at(5, 7, -2)}, []byte{5, 1, 1, 5, 7, 3}},
		{nil, []api.Mut{at(5, 0, 0)}, []byte{5, 1, 1, 5, 0, 0}},
		{nil, []api.Mut{at(6, 7, 0)}, []byte{6, 1, 1, 5, 7}},
		{nil, []api.Mut{at(6, 0, 0)}, []byte{6, 1, 1, 5, 0}},
		{nil, []api.Mut{keyed(3, 0, 23)}, []byte{1, 3, 0, 23, 0}},
		{nil, []api.Mut{keyed(2, 1, 5)}, []byte{1, 2, 1, 5, 0}},
		{[]byte{9}, []api.Mut{at(2, 0, 0), at(4, 0, 0), at(2, 0, 0)}, []byte{9, 2, 1, 1, 5, 4, 1, 1, 5, 2, 1, 1, 5}},
		{[]byte{9}, []api.Mut{{}, at(2, 0, 0), at(2, 0, 1), at(6, 8, 0), at(6, 7, 0), keyed(4, 0, 0)}, []byte{9, 2, 1, 1, 5, 6, 1, 1, 5, 7}},
		{[]byte{9}, []api.Mut{{}, at(7, 0, 0), at(-1, 0, 0), at(5, -1, 0), at(1, 1, 0)}, []byte{9}},
		{nil, []api.Mut{at(1, 0, math.MaxInt64)}, []byte{1, 1, 1, 5, 254, 255, 255, 255, 255, 255, 255, 255, 255, 1}},
		{nil, []api.Mut{at(5, 7, math.MinInt64)}, []byte{5, 1, 1, 5, 7, 255, 255, 255, 255, 255, 255, 255, 255, 255, 1}},
	} {
		if got := Put(c.b, c.ms...); !bytes.Equal(got, c.want) {
			t.Errorf("P6.1, %d: Put %v, not %v", i, got, c.want)
		}
	}
}

func TestPutSharesNothing(t *testing.T) {
	for _, ms := range [][]api.Mut{nil, {{}}, {at(5, 7, -2)}, {at(5, 7, -2), {}, at(2, 0, 0)}} {
		room := bytes.Repeat([]byte{77}, 200)
		b := room[:3]
		first := Put(b, ms...)
		want := bytes.Clone(first)
		second := Put(b, ms...)
		for _, out := range [][]byte{first, second} {
			if !bytes.Equal(out, want) {
				t.Errorf("P0.5: Put %x, then %x", want, out)
			}
			all := out[:cap(out)]
			for i := range all {
				all[i] = 1
			}
		}
		if !bytes.Equal(room, bytes.Repeat([]byte{77}, 200)) {
			t.Errorf("P0.3: Put of %d changes, or who writes into its answer, writes into b or its spare room", len(ms))
		}
		if third := Put(b, ms...); !bytes.Equal(third, want) {
			t.Errorf("P0.3: Put %x, then %x", want, third)
		}
	}
}

func TestPutLeavesItsChanges(t *testing.T) {
	room := []api.Mut{at(5, 7, -2), {Kind: 9}, at(2, 0, 0), at(4, 0, 0), at(1, 0, 1)}
	want := slices.Clone(room)
	Put(nil, room[:3]...)
	if !slices.Equal(room, want) {
		t.Errorf("P0.3: Put makes %v of the changes", room)
	}
}

// changes are one of each kind, at its edges.
func changes() []api.Mut {
	var ms []api.Mut
	for kind, s := range shapes() {
		values := []int64{0}
		if s.v {
			values = []int64{math.MinInt64, math.MinInt64 + 1, -65, -64, -1, 0, 1, 63, 64, math.MaxInt64 - 1, math.MaxInt64}
		}
		for f := range s.mostF + 1 {
			for _, v := range values {
				ms = append(ms, at(kind, f, v))
				ms = append(ms, api.Mut{Kind: kind, F: f, V: v})
				ms = append(ms, api.Mut{Kind: kind, Key: api.Key{Group: 3, Ns: 1, Id: 23}, F: f, V: v})
			}
		}
	}
	return ms
}

func TestGetWhatPutWrites(t *testing.T) {
	for _, m := range changes() {
		b := Put(nil, m)
		if !bytes.Equal(b, slowPut(nil, m)) {
			t.Fatalf("P6.1: Put of %v: %x", m, b)
		}
		checkGet(t, "whole", b, m, len(b), api.OK)
		checkGet(t, "bytes behind it", append(bytes.Clone(b), 255, 0), m, len(b), api.OK)
		checkGet(t, "a change behind it", Put(b, at(5, 1, 300)), m, len(b), api.OK)
		for end := range b {
			checkGet(t, "cut off", b[:end], api.Mut{}, 0, api.ErrTorn)
		}
	}
}

func TestGetEachKey(t *testing.T) {
	for group := range 6 {
		for ns := range 4 {
			for id := range 30 {
				b := []byte{4, byte(group), byte(ns), byte(id), 1}
				if group < 4 && ns < 2 && id < 24 {
					checkGet(t, "a key", b, api.Mut{Kind: 4, Key: api.Key{Group: group, Ns: ns, Id: id}}, 4, api.OK)
				} else {
					checkGet(t, "a key that is none", b, api.Mut{}, 0, api.ErrForm)
				}
			}
		}
	}
}

func TestGetErrors(t *testing.T) {
	for _, c := range []struct {
		name string
		b    []byte
		e    api.Errno
	}{
		{"nil", nil, api.ErrTorn},
		{"empty", []byte{}, api.ErrTorn},
		{"zeros", []byte{0, 0, 0, 0}, api.ErrForm},
		{"zeros, cut off", []byte{0, 0, 0}, api.ErrTorn},
		{"kind 7", []byte{7, 1, 1, 5}, api.ErrForm},
		{"kind 7, cut off", []byte{7, 1, 1}, api.ErrTorn},
		{"group 4", []byte{2, 4, 1, 5}, api.ErrForm},
		{"group 4, cut off", []byte{2, 4, 1}, api.ErrTorn},
		{"ns 2", []byte{2, 1, 2, 5}, api.ErrForm},
		{"id 24", []byte{2, 1, 1, 24}, api.ErrForm},
		{"id 24, no V", []byte{1, 1, 1, 24}, api.ErrTorn},
		{"F 8", []byte{6, 1, 1, 5, 8}, api.ErrForm},
		{"F 8 and V", []byte{5, 1, 1, 5, 8, 0}, api.ErrForm},
		{"F 8, no V", []byte{5, 1, 1, 5, 8}, api.ErrTorn},
		{"group 4, no F", []byte{6, 4, 1, 5}, api.ErrTorn},
		{"kind with a byte too many", []byte{129, 0, 1, 1, 5, 0}, api.ErrForm},
		{"group with a byte too many", []byte{1, 129, 0, 1, 5, 0}, api.ErrForm},
		{"ns with a byte too many", []byte{1, 1, 129, 0, 5, 0}, api.ErrForm},
		{"id with a byte too many", []byte{1, 1, 1, 133, 0, 0}, api.ErrForm},
		{"F with a byte too many", []byte{6, 1, 1, 5, 135, 0}, api.ErrForm},
		{"V with a byte too many", []byte{3, 1, 1, 5, 135, 0}, api.ErrForm},
		{"a byte too many, then cut off", []byte{129, 0}, api.ErrForm},
		{"group 4, V with a byte too many", []byte{3, 4, 1, 5, 135, 0}, api.ErrForm},
		{"more than 64 bits", append(bytes.Repeat([]byte{255}, 9), 2), api.ErrForm},
		{"V of more than 64 bits", join([]byte{1, 1, 1, 5}, bytes.Repeat([]byte{255}, 10)), api.ErrForm},
		{"V cut off", join([]byte{1, 1, 1, 5}, bytes.Repeat([]byte{255}, 9)), api.ErrTorn},
		{"nothing but 255", bytes.Repeat([]byte{255}, 1000), api.ErrForm},
	} {
		checkGet(t, c.name, c.b, api.Mut{}, 0, c.e)
	}
}

func TestGetHugeNumbers(t *testing.T) {
	huge := []uint64{128, 1 << 31, 1 << 32, 1<<32 + 1, 1<<32 + 5, 1<<63 - 1, 1 << 63, 1<<63 + 1, 1<<63 + 5, math.MaxUint64 - 1, math.MaxUint64}
	for _, n := range huge {
		for i := range 4 {
			parts := [][]byte{{1}, {1}, {1}, {5}, {0}}
			parts[i] = uvar(n)
			checkGet(t, "a huge number", join(parts...), api.Mut{}, 0, api.ErrForm)
		}
		checkGet(t, "a huge F", join([]byte{5, 1, 1, 5}, uvar(n), []byte{0}), api.Mut{}, 0, api.ErrForm)
		checkGet(t, "a huge F", join([]byte{6, 1, 1, 5}, uvar(n)), api.Mut{}, 0, api.ErrForm)
		checkGet(t, "a huge F, no V", join([]byte{5, 1, 1, 5}, uvar(n)), api.Mut{}, 0, api.ErrTorn)
		checkGet(t, "a huge kind, cut off", join(uvar(n), []byte{1, 1}), api.Mut{}, 0, api.ErrTorn)
	}
}

func TestGetLeavesItsBytes(t *testing.T) {
	for _, b := range [][]byte{{5, 1, 1, 5, 7, 3, 9}, {5, 1, 1, 5, 8, 3, 9}, {5, 1, 1, 133, 0}, {5}} {
		want := bytes.Clone(b)
		firstM, firstN, firstE := Get(b)
		if !bytes.Equal(b, want) {
			t.Errorf("P0.3: Get makes %x of %x", b, want)
		}
		checkGet(t, "again", b, firstM, firstN, firstE)
	}
}

// oddNumber is a number near one of those at which something changes.
func oddNumber(r *rand.Rand) int64 {
	marks := []int64{0, 0, 0, 1, 2, 4, 8, 24, 64, 1 << 32, math.MaxInt64 - 3, math.MinInt64 + 3}
	return marks[r.Intn(len(marks))] + int64(r.Intn(5)-2)
}

// anyMut is a change that may be about as often as not.
func anyMut(r *rand.Rand) api.Mut {
	m := api.Mut{Kind: r.Intn(6) + 1, Key: api.Key{Group: r.Intn(4), Ns: r.Intn(2), Id: r.Intn(24)}}
	if shapes()[m.Kind].f {
		m.F = int64(r.Intn(8))
	}
	if shapes()[m.Kind].v {
		m.V = oddNumber(r)
	}
	switch r.Intn(12) {
	case 0:
		m.Kind = int(oddNumber(r))
	case 1:
		m.Key.Group = int(oddNumber(r))
	case 2:
		m.Key.Ns = int(oddNumber(r))
	case 3:
		m.Key.Id = int(oddNumber(r))
	case 4:
		m.F = oddNumber(r)
	case 5:
		m.V = oddNumber(r)
	}
	return m
}

func TestAgainstSlowPut(t *testing.T) {
	r := rand.New(rand.NewSource(6))
	for range 20000 {
		b := make([]byte, r.Intn(4))
		r.Read(b)
		ms := make([]api.Mut, r.Intn(5))
		for i := range ms {
			ms[i] = anyMut(r)
			if got, want := May(ms[i]), slowMay(ms[i]); got != want {
				t.Fatalf("P6.1: May of %v: %t", ms[i], got)
			}
		}
		if got, want := Put(b, ms...), slowPut(b, ms...); !bytes.Equal(got, want) {
			t.Fatalf("P6.1: Put of %v behind %x: %x, not %x", ms, b, got, want)
		}
	}
}

// anyBytes is a change's bytes, and something done to them.
func anyBytes(r *rand.Rand) []byte {
	b := slowPut(nil, anyMut(r), anyMut(r))
	for range r.Intn(3) {
		if len(b) == 0 {
			break
		}
		i := r.Intn(len(b))
		switch r.Intn(4) {
		case 0:
			b[i] = byte(r.Intn(256))
		case 1:
			b[i] ^= 128
		case 2:
			b = b[:i]
		case 3:
			b = slices.Insert(b, i, uvar(uint64(oddNumber(r)))...)
		}
	}
	return b
}

func TestAgainstSlowGet(t *testing.T) {
	r := rand.New(rand.NewSource(66))
	seen := map[api.Errno]int{}
	for range 100000 {
		b := anyBytes(r)
		m, n, e := slowGet(b)
		checkGet(t, "any bytes", b, m, n, e)
		seen[e]++
	}
	for _, e := range []api.Errno{api.OK, api.ErrForm, api.ErrTorn} {
		if seen[e] < 1000 {
			t.Errorf("the bytes that are tried lead to %d only %d times", e, seen[e])
		}
	}
}

func TestPutAndGetOfMany(t *testing.T) {
	r := rand.New(rand.NewSource(666))
	ms := make([]api.Mut, 200000)
	var want []api.Mut
	for i := range ms {
		ms[i] = anyMut(r)
		if slowMay(ms[i]) {
			want = append(want, ms[i])
		}
	}
	b := Put(nil, ms...)
	for i, m := range want {
		got, n, e := Get(b)
		if got != m || e != api.OK {
			t.Fatalf("P6.1, %d: Get %v, %d, not %v", i, got, e, m)
		}
		b = b[n:]
	}
	if len(b) != 0 {
		t.Errorf("P6.1: Put writes %d bytes too many", len(b))
	}
}

func TestKeyOf(t *testing.T) {
	edges := []int{math.MinInt, math.MinInt + 1, -1 << 61, -1 << 32, -24, -8, -2, -1, 0, 1, 2, 3, 4, 5, 6, 7, 8, 9, 24, 1 << 32, 1 << 61, 1 << 62, math.MaxInt}
	for _, source := range edges {
		for _, key := range edges {
			for _, ns := range edges {
				var want api.Key
				ok := slices.Contains([]int{0, 1, 2}, source) && slices.Contains([]int{0, 1, 2, 3, 4, 5, 6, 7}, key) && slices.Contains([]int{0, 1}, ns)
				if ok {
					want = api.Key{Group: (8*source + key) % 4, Ns: ns, Id: 8*source + key}
				}
				got, gotOk := KeyOf(source, key, ns)
				if got != want || gotOk != ok {
					t.Errorf("P6.1: KeyOf(%d, %d, %d): %v, %t, not %v, %t", source, key, ns, got, gotOk, want, ok)
				}
				if ok && !May(api.Mut{Kind: api.MSet, Key: got}) {
					t.Errorf("P6.1: May says no at KeyOf(%d, %d, %d)", source, key, ns)
				}
			}
		}
	}
}

func TestKeyOfKnown(t *testing.T) {
	for _, c := range []struct {
		source, key, ns int
		want            api.Key
	}{
		{0, 0, 0, api.Key{}},
		{0, 7, 0, api.Key{Group: 3, Ns: 0, Id: 7}},
		{1, 0, 1, api.Key{Group: 0, Ns: 1, Id: 8}},
		{1, 2, 0, api.Key{Group: 2, Ns: 0, Id: 10}},
		{2, 7, 1, api.Key{Group: 3, Ns: 1, Id: 23}},
	} {
		if got, ok := KeyOf(c.source, c.key, c.ns); got != c.want || !ok {
			t.Errorf("P6.1: KeyOf(%d, %d, %d): %v, %t", c.source, c.key, c.ns, got, ok)
		}
	}
}

// TestLess goes through keys that rise: each is less than those behind it, and than no other.
func TestLess(t *testing.T) {
	numbers := []int{math.MinInt, math.MinInt + 1, -2, -1, 0, 1, 2, 23, math.MaxInt - 1, math.MaxInt}
	var rising []api.Key
	for _, group := range numbers {
		for _, ns := range numbers {
			for _, id := range numbers {
				rising = append(rising, api.Key{Group: group, Ns: ns, Id: id})
			}
		}
	}
	for i, a := range rising {
		for k, b := range rising {
			if got := Less(a, b); got != (i < k) {
				t.Fatalf("P6.1: Less of %v, %v: %t", a, b, got)
			}
		}
	}
}
