package seg

import (
	"bytes"
	"math"
	"math/rand"
	"slices"
	"testing"

	"remembrancer/api"
)

// beyond are numbers that no change has.
func beyond() []int {
	return []int{0, -1, -2, -10000, 10001, 10002, 16384, 65536, 1 << 32, 1<<32 + 1, -1 << 32, math.MaxInt, math.MaxInt - 1, math.MinInt, math.MinInt + 1}
}

func key() api.Key {
	return api.Key{Group: 1, Ns: 1, Id: 5}
}

// set is a change that takes 10 bytes with its frame, if v is small.
func set(v int64) api.Mut {
	return api.Mut{Kind: api.MSet, Key: key(), V: v}
}

// del is a change that takes 9 bytes with its frame.
func del() api.Mut {
	return api.Mut{Kind: api.MDel, Key: key()}
}

// push is a change that takes 19 bytes with its frame.
func push() api.Mut {
	return api.Mut{Kind: api.MPush, Key: key(), V: math.MinInt64}
}

// ofEachKind are changes that may be: each kind, what its F and V may be at their edges, keys at theirs.
func ofEachKind() []api.Mut {
	vs := []int64{0, 1, -1, 63, 64, -64, -65, 1 << 40, math.MaxInt64, math.MinInt64}
	out := []api.Mut{{Kind: api.MDel, Key: key()}, {Kind: api.MClear, Key: key()}}
	for _, v := range vs {
		out = append(out,
			api.Mut{Kind: api.MSet, Key: key(), V: v},
			api.Mut{Kind: api.MPush, Key: key(), V: v},
			api.Mut{Kind: api.MPut, Key: key(), F: 7, V: v},
			api.Mut{Kind: api.MPut, Key: key(), V: v},
		)
	}
	for _, k := range []api.Key{{}, {Group: 3}, {Ns: 1}, {Id: 23}, {Group: 3, Ns: 1, Id: 23}} {
		for kind := api.MSet; kind <= api.MCut; kind++ {
			out = append(out, api.Mut{Kind: kind, Key: k})
		}
		out = append(out, api.Mut{Kind: api.MCut, Key: k, F: 7})
	}
	return out
}

// wrongOnes are changes that may not be, each for one reason.
func wrongOnes() []api.Mut {
	return []api.Mut{
		{},
		{Kind: 7, Key: key()},
		{Kind: -1, Key: key()},
		{Kind: math.MaxInt, Key: key()},
		{Kind: 257, Key: key()},
		{Kind: api.MSet, Key: api.Key{Group: 4}},
		{Kind: api.MSet, Key: api.Key{Group: -1}},
		{Kind: api.MSet, Key: api.Key{Ns: 2}},
		{Kind: api.MSet, Key: api.Key{Ns: math.MinInt}},
		{Kind: api.MSet, Key: api.Key{Id: 24}},
		{Kind: api.MSet, Key: api.Key{Id: -1}},
		{Kind: api.MSet, Key: key(), F: 1},
		{Kind: api.MPush, Key: key(), F: -1},
		{Kind: api.MPut, Key: key(), F: 8},
		{Kind: api.MCut, Key: key(), F: -1},
		{Kind: api.MDel, Key: key(), V: 1},
		{Kind: api.MClear, Key: key(), V: -1},
		{Kind: api.MCut, Key: key(), F: 1, V: 1},
	}
}

func times(m api.Mut, n int) []api.Mut {
	return slices.Repeat([]api.Mut{m}, n)
}

func join(parts ...[]byte) []byte {
	return bytes.Join(parts, nil)
}

// checkPut holds one answer of Put against what is wanted.
func checkPut(t *testing.T, name string, b []byte, e api.Errno, from int, ms ...api.Mut) {
	t.Helper()
	gotB, gotE := Put(from, ms...)
	if !bytes.Equal(gotB, b) || gotE != e {
		t.Errorf("P11.1: Put, %s, from %d, of %d changes: %d bytes, %d, not %d bytes, %d", name, from, len(ms), len(gotB), gotE, len(b), e)
	}
	if gotE != api.OK && gotB != nil {
		t.Errorf("P11.1: Put, %s: beside an error the bytes are not nil", name)
	}
}

// checkPutError is checkPut where an error is wanted.
func checkPutError(t *testing.T, name string, e api.Errno, from int, ms ...api.Mut) {
	t.Helper()
	checkPut(t, name, nil, e, from, ms...)
}

func TestHeadKnownBytes(t *testing.T) {
	for _, c := range []struct {
		from int
		want []byte
	}{
		{1, []byte{2, 0x55, 0, 0xa9, 0, 'S', 1}},
		{127, []byte{2, 0xd3, 0, 0x27, 1, 'S', 127}},
		{128, []byte{3, 0xd5, 0, 0xfd, 1, 'S', 128, 1}},
		{300, []byte{3, 0x02, 1, 0x56, 2, 'S', 172, 2}},
		{9999, []byte{3, 0x31, 1, 0x68, 2, 'S', 143, 78}},
		{10000, []byte{3, 0x32, 1, 0x6a, 2, 'S', 144, 78}},
	} {
		if got := Head(c.from); !bytes.Equal(got, c.want) {
			t.Errorf("P11.1: Head of %d: %x, not %x", c.from, got, c.want)
		}
	}
}

func TestHeadOfAllNumbers(t *testing.T) {
	for from := -300; from <= 10300; from++ {
		var want []byte
		if from >= 1 && from <= 10000 {
			want = slowHead(from)
		}
		if got := Head(from); !bytes.Equal(got, want) || (got == nil) != (want == nil) {
			t.Fatalf("P11.1: Head of %d: %x, not %x", from, got, want)
		}
	}
	for _, from := range beyond() {
		if got := Head(from); got != nil {
			t.Errorf("P11.1: Head of %d: %x, not nil", from, got)
		}
	}
}

func TestPutKnownBytes(t *testing.T) {
	for i, c := range []struct {
		from int
		ms   []api.Mut
		want []byte
	}{
		{1, nil, []byte{2, 0x55, 0, 0xa9, 0, 'S', 1}},
		{1, []api.Mut{{Kind: api.MDel}}, []byte{2, 0x55, 0, 0xa9, 0, 'S', 1, 4, 3, 0, 12, 0, 2, 0, 0, 0}},
		{1, []api.Mut{{Kind: api.MPut, Key: api.Key{Group: 2, Ns: 0, Id: 10}, F: 7, V: -2}, {Kind: api.MDel}}, []byte{
			2, 0x55, 0, 0xa9, 0, 'S', 1,
			6, 28, 0, 93, 0, 5, 2, 0, 10, 7, 3,
			4, 3, 0, 12, 0, 2, 0, 0, 0,
		}},
	} {
		got, e := Put(c.from, c.ms...)
		if !bytes.Equal(got, c.want) || e != api.OK {
			t.Errorf("P11.1, %d: Put %v, %d, not %v", i, got, e, c.want)
		}
	}
}

func TestPutOfNoChanges(t *testing.T) {
	for _, from := range []int{1, 2, 127, 128, 9999, 10000} {
		checkPut(t, "no changes", slowHead(from), api.OK, from)
		checkPut(t, "an empty list", slowHead(from), api.OK, from, []api.Mut{}...)
		if got, _ := Put(from); !bytes.Equal(got, Head(from)) {
			t.Errorf("P11.1: Put of no changes: %x, not Head's %x", got, Head(from))
		}
	}
}

func TestPutOfEachKind(t *testing.T) {
	all := ofEachKind()
	for _, m := range all {
		checkPut(t, "one change", slowSeg(300, m), api.OK, 300, m)
	}
	checkPut(t, "all of them", slowSeg(1, all...), api.OK, 1, all...)
	slices.Reverse(all)
	checkPut(t, "all of them, the other way round", slowSeg(1, all...), api.OK, 1, all...)
}

func TestPutOfNumbersBeyond(t *testing.T) {
	for _, from := range beyond() {
		for _, n := range []int{0, 1, 2, 3, 100} {
			checkPutError(t, "a from that is beyond", api.ErrRange, from, times(set(1), n)...)
		}
	}
	for _, n := range []int{1, 2, 3, 10, 1000} {
		ms := times(set(1), n)
		from := 10000 - n + 1
		checkPut(t, "up to 10,000", slowSeg(from, ms...), api.OK, from, ms...)
		checkPutError(t, "up to 10,001", api.ErrRange, from+1, ms...)
		checkPutError(t, "up to 10,001", api.ErrRange, from, append(ms, del())...)
	}
	for _, from := range []int{1, 2, 9999, 10000} {
		checkPutError(t, "many more than there are numbers", api.ErrRange, from, times(del(), 30000)...)
	}
}

func TestPutOfChangesThatMayNotBe(t *testing.T) {
	good := []api.Mut{set(1), del(), push(), set(-1)}
	for _, m := range wrongOnes() {
		checkPutError(t, "the only one", api.ErrForm, 5, m)
		for i := range len(good) + 1 {
			checkPutError(t, "one of several", api.ErrForm, 5, slices.Insert(slices.Clone(good), i, m)...)
		}
		checkPutError(t, "at the last number", api.ErrForm, 10000, m)
	}
	checkPutError(t, "all of them", api.ErrForm, 5, wrongOnes()...)
}

// TestPutAtTheLimitOfBytes: a head takes 7 bytes, from 128 on 8; 9 bytes 7,281 times and 7 are just 65,536.
func TestPutAtTheLimitOfBytes(t *testing.T) {
	for _, c := range []struct {
		from, nines, tens, size int
	}{
		{1, 7281, 0, 65536},
		{127, 7281, 0, 65536},
		{128, 7281, 0, 65537},
		{2720, 7281, 0, 65537},
		{1, 7282, 0, 65545},
		{1, 7280, 0, 65527},
		{1, 7280, 1, 65537},
		{1, 7271, 9, 65536},
		{1, 7270, 10, 65537},
		{1, 7272, 8, 65535},
		{128, 7272, 8, 65536},
		{129, 7271, 9, 65537},
		{1, 10000, 0, 90007},
		{1, 0, 10000, 100007},
	} {
		ms := append(times(del(), c.nines), times(set(0), c.tens)...)
		want := slowSeg(c.from, ms...)
		if len(want) != c.size {
			t.Fatalf("the test's own sum is wrong: %d, not %d", len(want), c.size)
		}
		if c.size > 65536 {
			checkPutError(t, "too many bytes", api.ErrLarge, c.from, ms...)
			continue
		}
		checkPut(t, "not too many bytes", want, api.OK, c.from, ms...)
	}
}

// TestPutOfSeveralErrors: ErrRange counts ahead of ErrForm, ErrForm ahead of ErrLarge.
func TestPutOfSeveralErrors(t *testing.T) {
	wrong := api.Mut{Kind: 7}
	long := times(push(), 6000)
	for _, from := range append(beyond(), 4002, 10000) {
		checkPutError(t, "beyond, and too long", api.ErrRange, from, long...)
		checkPutError(t, "beyond, and wrong", api.ErrRange, from, append(times(wrong, 1), long...)...)
		checkPutError(t, "beyond, and wrong at the end", api.ErrRange, from, append(slices.Clone(long), wrong)...)
	}
	for _, from := range beyond() {
		checkPutError(t, "a from that is beyond, and wrong", api.ErrRange, from, wrong)
	}
	checkPutError(t, "the wrong one is the one that is beyond", api.ErrRange, 10000, set(1), wrong)
	checkPutError(t, "the wrong one is ahead of the one that is beyond", api.ErrRange, 10000, wrong, set(1))
	checkPutError(t, "too long", api.ErrLarge, 1, long...)
	for _, i := range []int{0, 1, 3000, 5999, 6000} {
		checkPutError(t, "too long, and wrong", api.ErrForm, 1, slices.Insert(slices.Clone(long), i, wrong)...)
	}
}

// oddNumber is a number near one of those at which something changes.
func oddNumber(r *rand.Rand) int64 {
	marks := []int64{0, 0, 1, 2, 4, 8, 24, 64, 1 << 32, math.MaxInt64 - 3, math.MinInt64 + 3}
	return marks[r.Intn(len(marks))] + int64(r.Intn(5)-2)
}

// anyMut is a change that may be.
func anyMut(r *rand.Rand) api.Mut {
	m := api.Mut{Kind: r.Intn(6) + 1, Key: api.Key{Group: r.Intn(4), Ns: r.Intn(2), Id: r.Intn(24)}}
	if m.Kind >= api.MPut {
		m.F = int64(r.Intn(8))
	}
	if m.Kind%2 == 1 {
		m.V = oddNumber(r)
	}
	return m
}

func anyMuts(r *rand.Rand, most int) []api.Mut {
	out := make([]api.Mut, r.Intn(most+1))
	for i := range out {
		out[i] = anyMut(r)
	}
	return out
}

// anyFrom is a number at one of the edges about as often as not.
func anyFrom(r *rand.Rand) int {
	return []int{1, 126, 9996, 9999, r.Intn(9000)}[r.Intn(5)] + r.Intn(5)
}

func TestAgainstSlowPut(t *testing.T) {
	r := rand.New(rand.NewSource(11))
	seen := map[api.Errno]int{}
	for range 5000 {
		from, ms := anyFrom(r)-1, anyMuts(r, 6)
		if len(ms) > 0 && r.Intn(3) == 0 {
			ms[r.Intn(len(ms))] = wrongOnes()[r.Intn(len(wrongOnes()))]
		}
		want, e := slowPut(from, ms...)
		checkPut(t, "any changes", want, e, from, ms...)
		seen[e]++
	}
	for range 100 {
		from, ms := r.Intn(3000)+1, anyMuts(r, 7000)
		want, e := slowPut(from, ms...)
		checkPut(t, "many changes", want, e, from, ms...)
		seen[e]++
	}
	for _, e := range []api.Errno{api.OK, api.ErrRange, api.ErrForm, api.ErrLarge} {
		if seen[e] < 10 {
			t.Errorf("the changes that are tried lead to %d only %d times", e, seen[e])
		}
	}
}

// TestPutLeavesItsChanges: those handed in, and what lies in their spare room.
func TestPutLeavesItsChanges(t *testing.T) {
	row := ofEachKind()
	was := slices.Clone(row)
	for _, from := range []int{1, 9999, 0} {
		for n := range row {
			Put(from, row[:n]...)
		}
	}
	if !slices.Equal(row, was) {
		t.Error("P0.3: Put changes what is handed in, or its spare room")
	}
}

// TestPutBytesAreTheCallersOwn: whoever writes into an answer, or into what was handed in, changes no answer.
func TestPutBytesAreTheCallersOwn(t *testing.T) {
	ms := ofEachKind()
	want := slowSeg(7, ms...)
	first, _ := Put(7, ms...)
	second, _ := Put(7, ms...)
	overwrite(first)
	clear(ms)
	if !bytes.Equal(second, want) {
		t.Error("P0.3: an answer changed behind its call")
	}
	checkPut(t, "behind an answer that was written over", want, api.OK, 7, ofEachKind()...)
	one, other := Head(300), Head(300)
	overwrite(one)
	if !bytes.Equal(other, slowHead(300)) || !bytes.Equal(Head(300), slowHead(300)) {
		t.Error("P0.3: a head changed behind its call")
	}
}

// overwrite writes over all of b, spare room too.
func overwrite(b []byte) {
	b = b[:cap(b)]
	for i := range b {
		b[i] = 0xee
	}
}
