package mani

import (
	"bytes"
	"fmt"
	"math"
	"math/rand"
	"reflect"
	"slices"
	"strings"
	"testing"

	"remembrancer/api"
)

// good is a manifest with three of all, none of them like another.
func good() api.Manifest {
	return api.Manifest{N: 300, Txn: 300, Offsets: []int{0, 60, 7}, Parts: []api.Part{
		{Upto: 4, Segs: []string{"x", "y"}},
		{Base: "b", At: 7, Upto: 7},
		{Base: "bb", At: 200, Upto: 10000, Segs: []string{"y", "z", "zz"}},
	}}
}

// least is a manifest with one of all.
func least() api.Manifest {
	return api.Manifest{N: 1, Txn: 1, Offsets: []int{0}, Parts: []api.Part{{}}}
}

// far are numbers that nothing of a manifest may be.
func far() []int {
	return []int{-1, -2, math.MinInt, math.MinInt + 1, math.MaxInt, 1 << 32, 1<<32 + 1, -1 << 32, 100000, 100001}
}

func name(n int) string { return strings.Repeat("x", n) }

func names(n int) []string { return slices.Repeat([]string{"x"}, n) }

// brief is m written out, as far as one may want to read it.
func brief(m api.Manifest) string {
	s := fmt.Sprint(m)
	return s[:min(len(s), 300)]
}

// check holds May, Put and Get of m against what is wanted.
func check(t *testing.T, what string, m api.Manifest, may bool) {
	t.Helper()
	before := deep(m)
	if May(m) != may {
		t.Errorf("P15.1: May, %s: not %v", what, may)
	}
	got, e := Put(m)
	if !may {
		if got != nil || e != api.ErrForm {
			t.Errorf("P15.1: Put, %s: %d bytes, %d, not nil, ErrForm", what, len(got), e)
		}
		checkNone(t, what, slowMani(m), api.ErrForm)
		return
	}
	if !bytes.Equal(got, slowMani(m)) || e != api.OK {
		t.Errorf("P15.1: Put, %s: %x, %d, not %x", what, got, e, slowMani(m))
	}
	checkGet(t, what, got, m)
	if !reflect.DeepEqual(m, before) {
		t.Errorf("P0.3: %s: the manifest was changed", what)
	}
}

func checkGet(t *testing.T, what string, b []byte, m api.Manifest) {
	t.Helper()
	got, e := Get(b)
	if e != api.OK || !slowSame(got, m) || !Eq(got, m) || !Eq(m, got) {
		t.Errorf("P15.1: Get, %s: %s, %d, not %s", what, brief(got), e, brief(m))
	}
}

func checkNone(t *testing.T, what string, b []byte, e api.Errno) {
	t.Helper()
	if m, gotE := Get(b); gotE != e || !reflect.DeepEqual(m, api.Manifest{}) {
		t.Errorf("P15.1: Get, %s: %s, %d, not zero, %d", what, brief(m), gotE, e)
	}
}

// TestKnownBytes has a manifest written out, sums too, so that nothing of the program is trusted.
func TestKnownBytes(t *testing.T) {
	m := api.Manifest{N: 300, Txn: 300, Offsets: []int{0, 60}, Parts: []api.Part{{Upto: 4, Segs: []string{"x", "yz"}}, {Base: "b", At: 200, Upto: 200}}}
	want := []byte{
		9, 234, 1, 192, 12, 'M', 172, 2, 172, 2, 2, 0, 60, 2,
		4, 7, 0, 14, 0, 0, 0, 4, 2,
		1, 121, 0, 121, 0, 'x',
		2, 244, 0, 110, 1, 'y', 'z',
		7, 246, 1, 160, 8, 1, 'b', 200, 1, 200, 1, 0,
	}
	if got, e := Put(m); !bytes.Equal(got, want) || e != api.OK {
		t.Errorf("P15.1: Put: %v, %d, not %v", got, e, want)
	}
	if got, e := Get(want); !reflect.DeepEqual(got, api.Manifest{N: 300, Txn: 300, Offsets: m.Offsets, Parts: m.Parts}) || e != api.OK {
		t.Errorf("P15.1: Get: %v, %d", got, e)
	}
}

func TestOfGood(t *testing.T) {
	check(t, "good", good(), true)
	check(t, "least", least(), true)
	check(t, "zero", api.Manifest{}, false)
}

func TestN(t *testing.T) {
	for _, n := range append(far(), 0, 1, 2, 127, 128, 16383, 16384, 99998, 99999) {
		m := good()
		m.N, m.Txn = n, n
		check(t, "N", m, 1 <= n && n <= 99999)
		for _, txn := range append(far(), 0, 1, 300, 99999, n-1, n+1) {
			m.Txn = txn
			check(t, "another Txn", m, txn == n && 1 <= n && n <= 99999)
		}
	}
}

func TestOffsets(t *testing.T) {
	for many := range 8 {
		m := good()
		m.Offsets = make([]int, many)
		check(t, "many Offsets", m, 1 <= many && many <= 3)
	}
	for _, many := range []int{100, 257, 4000} {
		m := good()
		m.Offsets = make([]int, many)
		check(t, "very many Offsets", m, false)
	}
	for many := 1; many <= 3; many++ {
		for i := range many {
			for _, o := range append(far(), 0, 1, 59, 60, 61, 62, 128) {
				m := good()
				m.Offsets = make([]int, many)
				m.Offsets[i] = o
				check(t, "an Offset", m, 0 <= o && o <= 60)
			}
		}
	}
}

func TestNumberOfParts(t *testing.T) {
	for many := range 8 {
		m := good()
		m.Parts = slices.Repeat([]api.Part{{Base: "b", At: 1, Upto: 2, Segs: []string{"s"}}}, many)
		check(t, "many Parts", m, 1 <= many && many <= 3)
		m.Parts = make([]api.Part, many)
		check(t, "many Parts of nothing", m, 1 <= many && many <= 3)
	}
	for _, many := range []int{256 + 1, 1000} {
		m := good()
		m.Parts = make([]api.Part, many)
		check(t, "very many Parts", m, false)
	}
}

// checkPart has p as each of as many Parts as there may be, with others beside it that may be.
func checkPart(t *testing.T, what string, p api.Part, may bool) {
	t.Helper()
	for many := 1; many <= 3; many++ {
		for i := range many {
			m := good()
			m.Parts = m.Parts[:many]
			m.Parts[i] = p
			check(t, what, m, may)
		}
	}
}

func TestAtAndBase(t *testing.T) {
	for _, at := range append(far(), 0, 1, 2, 127, 128, 9999, 10000, 10001) {
		inside := 0 <= at && at <= 10000
		for _, base := range []string{"", "b", name(39), name(40), name(41), name(42), name(128), name(3000)} {
			may := inside && len(base) <= 40 && (at == 0) == (base == "")
			checkPart(t, "At and Base", api.Part{Base: base, At: at, Upto: at}, may)
			checkPart(t, "At and Base, Upto 10,000", api.Part{Base: base, At: at, Upto: 10000}, may)
		}
	}
	checkPart(t, "a Base of any bytes", api.Part{Base: "\x00\xff\x80 é", At: 1, Upto: 1}, true)
	checkPart(t, "a Base that is a byte 0", api.Part{Base: "\x00", At: 1, Upto: 1}, true)
}

func TestUpto(t *testing.T) {
	for _, at := range []int{0, 1, 2, 128, 9999, 10000} {
		base := ""
		if at > 0 {
			base = "b"
		}
		for _, upto := range append(far(), 0, 1, 2, at-1, at, at+1, 9999, 10000, 10001, 10002) {
			inside := at <= upto && upto <= 10000
			checkPart(t, "no Segs", api.Part{Base: base, At: at, Upto: upto}, inside)
			checkPart(t, "empty Segs", api.Part{Base: base, At: at, Upto: upto, Segs: []string{}}, inside)
			checkPart(t, "a Seg", api.Part{Base: base, At: at, Upto: upto, Segs: []string{"s"}}, inside && upto != at)
			checkPart(t, "Segs", api.Part{Base: base, At: at, Upto: upto, Segs: []string{"t", "s", "t"}}, inside && upto != at)
		}
	}
}

func TestSegs(t *testing.T) {
	for _, long := range []int{0, 1, 2, 39, 40, 41, 42, 127, 128, 4096, 4097} {
		for _, many := range []int{1, 2, 3, 10} {
			for i := range many {
				p := api.Part{Base: "b", At: 5, Upto: 6, Segs: names(many)}
				p.Segs[i] = name(long)
				m := least()
				m.Parts[0] = p
				if long > 4096 && !May(m) {
					// Such bytes are no frame: Get tells so first.
					checkNone(t, "a very long Seg", slowMani(m), api.ErrLarge)
					continue
				}
				checkPart(t, "a Seg", p, 1 <= long && long <= 40)
			}
		}
	}
	for _, many := range []int{0, 1, 2, 127, 128, 129, 999, 1000, 1001, 1002, 1256} {
		checkPart(t, "so many Segs", api.Part{Upto: 10000, Segs: names(many)}, many <= 1000)
		checkPart(t, "so many Segs of few numbers", api.Part{Upto: 1, Segs: names(many)}, many <= 1000)
	}
	checkPart(t, "Segs of any bytes", api.Part{Upto: 1, Segs: []string{"\x00", "\xff\xfe", "M", "é", "\x00"}}, true)
}

// TestSegsOfAll: as many as there may be in each part.
func TestSegsOfAll(t *testing.T) {
	m := good()
	for i := range m.Parts {
		m.Parts[i] = api.Part{Upto: 1, Segs: names(1000)}
	}
	check(t, "3,000 Segs", m, true)
}

// sized is a manifest whose bytes are just so many.
func sized(t *testing.T, want int) api.Manifest {
	t.Helper()
	m := good()
	for i := range m.Parts {
		m.Parts[i] = api.Part{Base: name(40), At: 9000, Upto: 10000, Segs: slices.Repeat([]string{name(40)}, 470)}
	}
	// A Seg's frame has 5 bytes more than its name, and is 6 to 45 bytes long.
	rest := want - len(slowMani(m))
	for i := 0; rest > 0; i++ {
		take := min(rest, 45)
		if 0 < rest-take && rest-take < 6 {
			take -= 6
		}
		p := &m.Parts[i%3]
		p.Segs = append(p.Segs, name(take-5))
		rest -= take
	}
	if n := len(slowMani(m)); n != want {
		t.Fatalf("a manifest of %d bytes was to have %d", n, want)
	}
	return m
}

func TestSizes(t *testing.T) {
	for _, n := range []int{65000, 65530, 65534, 65535, 65536} {
		check(t, "nearly too large", sized(t, n), true)
	}
	for _, n := range []int{65537, 65538, 65600, 70000, 131072} {
		m := sized(t, n)
		if got, e := Put(m); !May(m) || got != nil || e != api.ErrLarge {
			t.Errorf("P15.1: Put of %d bytes: %d bytes, %d", n, len(got), e)
		}
		checkGet(t, "too large to be put", slowMani(m), m)
		m.Txn++
		check(t, "too large, and may not be", m, false)
	}
}

// TestTwoThingsWrong: it does not matter which, and how many.
func TestTwoThingsWrong(t *testing.T) {
	turns := []func(m *api.Manifest){
		func(m *api.Manifest) { m.N = 0 },
		func(m *api.Manifest) { m.Txn = 9 },
		func(m *api.Manifest) { m.Offsets = nil },
		func(m *api.Manifest) { m.Offsets = []int{61} },
		func(m *api.Manifest) { m.Parts = nil },
		func(m *api.Manifest) { m.Parts = []api.Part{{At: 1, Upto: 1}} },
		func(m *api.Manifest) { m.Parts = []api.Part{{Segs: []string{"x"}}} },
	}
	for _, one := range turns {
		for _, two := range turns {
			m := good()
			one(&m)
			two(&m)
			check(t, "two things wrong", m, false)
		}
	}
}

// anyManifest is one that may be more often than not.
func anyManifest(r *rand.Rand) api.Manifest {
	m := api.Manifest{N: 1 + r.Intn(99999)}
	m.Txn = m.N
	for range 1 + r.Intn(3) {
		m.Offsets = append(m.Offsets, r.Intn(61))
	}
	for range 1 + r.Intn(3) {
		m.Parts = append(m.Parts, anyPart(r))
	}
	return m
}

func anyPart(r *rand.Rand) api.Part {
	var p api.Part
	if r.Intn(2) == 0 {
		p.Base, p.At = name(1+r.Intn(40)), 1+r.Intn(10000)
	}
	p.Upto = p.At + r.Intn(10001-p.At)
	if p.Upto > p.At {
		for range r.Intn(5) {
			p.Segs = append(p.Segs, string(rune('a'+r.Intn(26)))+name(r.Intn(40)))
		}
	}
	return p
}

func TestRandomManifests(t *testing.T) {
	r := rand.New(rand.NewSource(15))
	for range 5000 {
		m := anyManifest(r)
		check(t, "at random", m, true)
		p := &m.Parts[r.Intn(len(m.Parts))]
		switch r.Intn(5) {
		case 0:
			p.At += r.Intn(3) - 1
		case 1:
			p.Upto = r.Intn(10002)
		case 2:
			p.Base = name(r.Intn(43))
		case 3:
			p.Segs = append(p.Segs, name(r.Intn(42)))
		case 4:
			m.Offsets[0] = r.Intn(70) - 4
		}
		check(t, "at random, turned", m, slowMay(m))
	}
}

func TestName(t *testing.T) {
	for n, want := range map[int]string{1: "c00001", 12: "c00012", 123: "c00123", 10000: "c10000", 99999: "c99999", 0: "", 100000: "", -1: ""} {
		if got := Name(n); got != want {
			t.Errorf("P15.1: Name(%d): %q, not %q", n, got, want)
		}
	}
	for _, n := range far() {
		if got := Name(n); got != "" {
			t.Errorf("P15.1: Name(%d): %q", n, got)
		}
	}
	last := ""
	for n := 1; n <= 99999; n++ {
		got := Name(n)
		if got != slowName(n) || got <= last {
			t.Fatalf("P15.1: Name(%d): %q, behind %q", n, got, last)
		}
		last = got
	}
}

// of is a manifest whose Parts have these names: the first of each is its Base.
func of(parts ...[]string) api.Manifest {
	var m api.Manifest
	for _, p := range parts {
		m.Parts = append(m.Parts, api.Part{Base: p[0], Segs: p[1:]})
	}
	return m
}

func TestNeeds(t *testing.T) {
	type list = []string
	for _, c := range []struct {
		m    api.Manifest
		want []string
	}{
		{api.Manifest{}, nil},
		{api.Manifest{N: 7, Txn: 7, Offsets: []int{1}}, nil},
		{of(list{""}), nil},
		{of(list{"", "", ""}, list{""}), nil},
		{of(list{"b"}), list{"b"}},
		{of(list{"", "s"}), list{"s"}},
		{of(list{"b", "a"}), list{"a", "b"}},
		{of(list{"b", "c"}), list{"b", "c"}},
		{of(list{"b", "b"}), list{"b"}},
		{of(list{"", "z", "y", "x"}), list{"x", "y", "z"}},
		{of(list{"", "x", "y"}, list{"", "x", "y"}, list{"", "x", "y"}), list{"x", "y"}},
		{of(list{"b"}, list{"b"}, list{"b"}), list{"b"}},
		{of(list{"b", "s"}, list{"s", "b"}), list{"b", "s"}},
		{of(list{"m", "z", "a", "", "z"}, list{""}, list{"a", "k"}), list{"a", "k", "m", "z"}},
		{of(list{"b", "B", "bb", "b1", "\x00", "\xff"}), list{"\x00", "B", "b", "b1", "bb", "\xff"}},
		{of(list{"1"}, list{"2"}, list{"3"}, list{"4", "5"}), list{"1", "2", "3", "4", "5"}},
		{of(list{name(41), name(5000)}), list{name(41), name(5000)}},
		{good(), list{"b", "bb", "x", "y", "z", "zz"}},
	} {
		before := deep(c.m)
		if got := Needs(c.m); !slices.Equal(got, c.want) {
			t.Errorf("P15.1: Needs of %v: %q, not %q", c.m, got, c.want)
		}
		if !reflect.DeepEqual(c.m, before) {
			t.Errorf("P0.3: Needs changed the manifest: %v, not %v", c.m, before)
		}
	}
}

func TestNeedsOfMany(t *testing.T) {
	r := rand.New(rand.NewSource(16))
	for range 500 {
		m := api.Manifest{Parts: make([]api.Part, r.Intn(5))}
		for i := range m.Parts {
			m.Parts[i].Base = name(r.Intn(3))
			for range r.Intn(40) {
				m.Parts[i].Segs = append(m.Parts[i].Segs, slowName(r.Intn(30)))
			}
		}
		if got, want := Needs(m), slowNeeds(m); !slices.Equal(got, want) {
			t.Fatalf("P15.1: Needs of %v: %q, not %q", m, got, want)
		}
	}
}

// others are manifests that differ from good in one thing.
func others() []api.Manifest {
	var out []api.Manifest
	for _, turn := range []func(m *api.Manifest){
		func(m *api.Manifest) { m.N++ },
		func(m *api.Manifest) { m.Txn-- },
		func(m *api.Manifest) { m.Offsets[0]++ },
		func(m *api.Manifest) { m.Offsets[2]++ },
		func(m *api.Manifest) { m.Offsets = m.Offsets[:2] },
		func(m *api.Manifest) { m.Offsets = append(m.Offsets, 0) },
		func(m *api.Manifest) { m.Offsets = nil },
		func(m *api.Manifest) { slices.Reverse(m.Offsets) },
		func(m *api.Manifest) { m.Parts = m.Parts[:2] },
		func(m *api.Manifest) { m.Parts = append(m.Parts, api.Part{}) },
		func(m *api.Manifest) { m.Parts = nil },
		func(m *api.Manifest) { slices.Reverse(m.Parts) },
		func(m *api.Manifest) { m.Parts[0].Base = "b" },
		func(m *api.Manifest) { m.Parts[2].Base = "b" },
		func(m *api.Manifest) { m.Parts[0].At = 1 },
		func(m *api.Manifest) { m.Parts[2].At-- },
		func(m *api.Manifest) { m.Parts[0].Upto = 5 },
		func(m *api.Manifest) { m.Parts[2].Upto = 0 },
		func(m *api.Manifest) { m.Parts[0].Segs = nil },
		func(m *api.Manifest) { m.Parts[0].Segs[1] = "x" },
		func(m *api.Manifest) { slices.Reverse(m.Parts[0].Segs) },
		func(m *api.Manifest) { m.Parts[1].Segs = []string{""} },
		func(m *api.Manifest) { m.Parts[2].Segs = m.Parts[2].Segs[:2] },
		func(m *api.Manifest) { m.Parts[2].Segs = append(m.Parts[2].Segs, "zz") },
	} {
		m := good()
		turn(&m)
		out = append(out, m)
	}
	return out
}

func TestEq(t *testing.T) {
	all := append(others(), good(), least(), api.Manifest{}, api.Manifest{N: math.MinInt}, api.Manifest{Txn: math.MaxInt})
	for i, a := range all {
		for k, b := range all {
			if Eq(a, deep(b)) != (i == k) {
				t.Errorf("P15.1: Eq of %v and %v: not %v", a, b, i == k)
			}
		}
	}
}

func TestEqOfNilAndEmpty(t *testing.T) {
	ints, texts, parts := []int{}, []string{}, []api.Part{}
	same := []api.Manifest{{}, {Offsets: ints}, {Parts: parts}, {Offsets: ints, Parts: parts}, {Offsets: make([]int, 0, 5), Parts: make([]api.Part, 0, 5)}}
	one := []api.Manifest{{Parts: []api.Part{{}}}, {Parts: []api.Part{{Segs: texts}}}, {Offsets: ints, Parts: []api.Part{{Segs: make([]string, 0, 5)}}}}
	for _, like := range [][]api.Manifest{same, one} {
		for _, a := range like {
			for _, b := range like {
				if !Eq(a, b) {
					t.Errorf("P15.1: Eq of %#v and %#v", a, b)
				}
			}
		}
	}
	for _, a := range same {
		for _, b := range one {
			if Eq(a, b) || Eq(b, a) {
				t.Errorf("P15.1: Eq of no part and of one that has nothing")
			}
		}
	}
}

// TestNilAndEmptyElsewhere: as P0.4 has it, of an empty list all is as of nil.
func TestNilAndEmptyElsewhere(t *testing.T) {
	m := api.Manifest{N: 1, Txn: 1, Offsets: []int{}, Parts: []api.Part{{}}}
	check(t, "empty Offsets", m, false)
	m = api.Manifest{N: 1, Txn: 1, Offsets: []int{0}, Parts: []api.Part{}}
	check(t, "empty Parts", m, false)
	m.Parts = []api.Part{{Segs: []string{}}}
	check(t, "empty Segs", m, true)
	if b, _ := Put(m); !bytes.Equal(b, slowMani(least())) {
		t.Error("P0.4: Put of empty Segs is not that of nil")
	}
}

// TestPutKeepsNothing: what Put told stays, whatever becomes of the manifest, and of what it told before.
func TestPutKeepsNothing(t *testing.T) {
	m, want := good(), slowMani(good())
	first, _ := Put(m)
	second, _ := Put(m)
	for i := range first[:cap(first)] {
		first[:cap(first)][i] ^= 255
	}
	m.Offsets[0], m.Parts[0].Segs[0] = 9, "w"
	if third, _ := Put(good()); !bytes.Equal(second, want) || !bytes.Equal(third, want) {
		t.Error("P0.3: what Put told changes with the manifest or with another answer")
	}
}

// TestGetKeepsNothing: b stays as it is, its spare room too, and no answer changes with it.
func TestGetKeepsNothing(t *testing.T) {
	b := append(make([]byte, 0, 500), slowMani(good())...)
	all := b[:cap(b)]
	for i := len(b); i < len(all); i++ {
		all[i] = 'x'
	}
	before := bytes.Clone(all)
	first, _ := Get(b)
	second, _ := Get(b)
	if !bytes.Equal(all, before) {
		t.Error("P0.3: Get changed b")
	}
	for i := range all {
		all[i] ^= 255
	}
	first.Offsets[0], first.Parts[0].Segs[0], first.Parts[2] = 9, "w", api.Part{}
	if !Eq(second, good()) {
		t.Errorf("P0.3: what Get told changed with b or with another answer: %v", second)
	}
}

// TestListsOfOneAnswer: whoever writes behind one of them writes into none of the others.
func TestListsOfOneAnswer(t *testing.T) {
	m := api.Manifest{N: 1, Txn: 1, Offsets: []int{1}, Parts: slices.Repeat([]api.Part{{Upto: 1, Segs: names(5)}}, 3)}
	got, _ := Get(slowMani(m))
	for i, p := range got.Parts {
		for k := range p.Segs[:cap(p.Segs)] {
			p.Segs[:cap(p.Segs)][k] = "w"
		}
		for k, other := range got.Parts {
			if k > i && !slices.Equal(other.Segs, names(5)) {
				t.Errorf("P0.3: the Segs of part %d share memory with those of part %d", i, k)
			}
		}
	}
}

func TestNeedsKeepsNothing(t *testing.T) {
	m, want := good(), slowNeeds(good())
	first, second := Needs(m), Needs(m)
	for i := range first[:cap(first)] {
		first[:cap(first)][i] = "w"
	}
	m.Parts[0].Segs[0] = "w"
	if !slices.Equal(second, want) || !slices.Equal(Needs(good()), want) {
		t.Errorf("P0.3: what Needs told changed: %q", second)
	}
	single := of([]string{"", "s"})
	got := Needs(single)
	got[0] = "w"
	if single.Parts[0].Segs[0] != "s" {
		t.Error("P0.3: Needs told the manifest's own list")
	}
}
