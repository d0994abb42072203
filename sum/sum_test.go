package sum

import (
	"bytes"
	"hash/adler32"
	"math/rand"
	"testing"
)

// slow does what the chapter says with numbers so wide that the modulus is taken once, at the end.
func slow(all []byte) uint32 {
	a, b := uint64(1), uint64(0)
	for _, c := range all {
		a += uint64(c)
		b += a
	}
	return uint32(b%65521*65536 + a%65521)
}

func run(c byte, n int) []byte {
	return bytes.Repeat([]byte{c}, n)
}

func anyBytes(r *rand.Rand, most int) []byte {
	b := make([]byte, r.Intn(most+1))
	r.Read(b)
	return b
}

// cut makes parts of all, empty and nil ones among them.
func cut(r *rand.Rand, all []byte) [][]byte {
	var parts [][]byte
	for len(all) > 0 {
		n := r.Intn(len(all) + 1)
		parts = append(parts, all[:n])
		if r.Intn(4) == 0 {
			parts = append(parts, nil)
		}
		all = all[n:]
	}
	return parts
}

func TestOfKnownBytes(t *testing.T) {
	for _, c := range []struct {
		b    []byte
		want uint32
	}{
		{nil, 1},
		{[]byte{}, 1},
		{[]byte{0}, 1<<16 | 1},
		{[]byte{1}, 2<<16 | 2},
		{[]byte{255}, 256<<16 | 256},
		{[]byte{0, 0, 0}, 3<<16 | 1},
		// The order of the bytes is seen in b alone.
		{[]byte{1, 2}, 6<<16 | 4},
		{[]byte{2, 1}, 7<<16 | 4},
		{[]byte("a"), 0x00620062},
		{[]byte("abc"), 0x024d0127},
		{[]byte("Wikipedia"), 0x11e60398},
	} {
		if got := Of(c.b); got != c.want {
			t.Errorf("P2.1: Of(%v) = %#x, want %#x", c.b, got, c.want)
		}
		if got := New().Add(c.b).Value(); got != c.want {
			t.Errorf("P2.1: New, Add(%v), Value = %#x, want %#x", c.b, got, c.want)
		}
	}
}

func TestNoPartsAndNoBytes(t *testing.T) {
	for what, parts := range map[string][][]byte{
		"no parts":     {},
		"nil parts":    nil,
		"one nil":      {nil},
		"many nils":    {nil, nil, nil},
		"empty parts":  {{}, {}},
		"nil or empty": {nil, {}, nil},
	} {
		if got := Of(parts...); got != 1 {
			t.Errorf("P2.1: Of %s = %d, want 1", what, got)
		}
		s := New()
		if s.Add(parts...) != s || s.Value() != 1 {
			t.Errorf("P2.1: Add of %s: %d, want 1", what, s.Value())
		}
		s.Add([]byte("abc"))
		if s.Add(parts...) != s || s.Value() != 0x024d0127 {
			t.Errorf("P2.1: Add of %s behind bytes: %#x", what, s.Value())
		}
	}
	if got := Of(); got != 1 {
		t.Errorf("P2.1: Of() = %d, want 1", got)
	}
	if s := New(); s == nil || s.Add() != s || s.Value() != 1 {
		t.Error("P2.1: New().Add() is not of no bytes")
	}
}

func TestEdgesOfTheModulus(t *testing.T) {
	// 256 bytes of 255 are 65,280: with 1 that is 240 short of 65,521.
	head := run(255, 256)
	for _, c := range []struct {
		last  byte
		wantA uint32
	}{
		{238, 65519}, {239, 65520}, {240, 0}, {241, 1}, {242, 2}, {255, 15},
	} {
		all := append(bytes.Clone(head), c.last)
		got := Of(all)
		if got&65535 != c.wantA || got != slow(all) {
			t.Errorf("P2.1: a of 65,280 and %d = %d, want %d; in all %#x, want %#x", c.last, got&65535, c.wantA, got, slow(all))
		}
		// What comes behind a's edge starts from the a that is left.
		if got, want := Of(all, []byte{7, 0}), slow(append(all, 7, 0)); got != want {
			t.Errorf("P2.1: behind a = %d: %#x, want %#x", c.wantA, got, want)
		}
	}
	// Of bytes of 0 a stays 1, and b is how many there are.
	for _, n := range []int{65519, 65520, 65521, 65522, 2*65521 - 1, 2 * 65521, 2*65521 + 1} {
		if got, want := Of(run(0, n)), uint32(n%65521)<<16|1; got != want {
			t.Errorf("P2.1: Of %d bytes of 0 = %#x, want %#x", n, got, want)
		}
	}
}

func TestManyBytes(t *testing.T) {
	// By hand: 1 + 6,000 * 255 = 23 * 65,521 + 23,018; 6,000 + 255 * 6,000 * 6,001 / 2 = 70,065 * 65,521 + 42,135.
	if got, want := Of(run(255, 6000)), uint32(42135<<16|23018); got != want {
		t.Errorf("P2.1: Of 6,000 bytes of 255 = %#x, want %#x", got, want)
	}
	// Unreduced, b would leave 32 bits at 5,804 bytes of 255, and a at 16,843,009.
	for _, n := range []int{257, 5551, 5552, 5553, 5803, 5804, 65521, 65536, 1 << 20, 17000000} {
		all := run(255, n)
		if got, want := Of(all), slow(all); got != want {
			t.Errorf("P2.1: Of %d bytes of 255 = %#x, want %#x", n, got, want)
		}
		if got, want := Of(all[:n/3], all[n/3:]), slow(all); got != want {
			t.Errorf("P2.1: Of %d bytes of 255 in two parts = %#x, want %#x", n, got, want)
		}
	}
}

func TestAnyBytesInAnyParts(t *testing.T) {
	r := rand.New(rand.NewSource(1))
	for range 1000 {
		all := anyBytes(r, 3000)
		want := adler32.Checksum(all)
		if slow(all) != want {
			t.Fatalf("the two ways of the test differ at %v", all)
		}
		if got := Of(all); got != want {
			t.Fatalf("P2.1: Of(%v) = %#x, want %#x", all, got, want)
		}
		parts := cut(r, all)
		if got := Of(parts...); got != want {
			t.Fatalf("P2.1: Of %d parts of %v = %#x, want %#x", len(parts), all, got, want)
		}
		s := New()
		for len(parts) > 0 {
			n := r.Intn(len(parts)) + 1
			if s.Add(parts[:n]...) != s {
				t.Fatal("P2.1: Add does not tell s")
			}
			parts = parts[n:]
		}
		if got := s.Value(); got != want {
			t.Fatalf("P2.1: part by part %v = %#x, want %#x", all, got, want)
		}
	}
}

func TestValueBehindEachByte(t *testing.T) {
	r := rand.New(rand.NewSource(2))
	all := make([]byte, 3000)
	r.Read(all)
	s := New()
	for i := range all {
		if got, want := s.Value(), slow(all[:i]); got != want {
			t.Fatalf("P2.1: of the first %d bytes %#x, want %#x", i, got, want)
		}
		if s.Value() != s.Value() {
			t.Fatal("P0.5: Value answers otherwise the second time")
		}
		s.Add(all[i : i+1])
	}
}

func TestManyParts(t *testing.T) {
	parts := make([][]byte, 100000)
	for i := range parts {
		if i%3 != 0 {
			parts[i] = []byte{byte(i)}
		}
	}
	want := slow(bytes.Join(parts, nil))
	if got := Of(parts...); got != want {
		t.Errorf("P2.1: Of many parts = %#x, want %#x", got, want)
	}
}

func TestOnePartTwice(t *testing.T) {
	part := []byte("remember")
	want := slow([]byte("rememberremember"))
	if got := Of(part, part); got != want {
		t.Errorf("P2.1: Of one part twice = %#x, want %#x", got, want)
	}
	s := New()
	if got := s.Add(part).Add(part).Value(); got != want {
		t.Errorf("P2.1: Add of one part twice = %#x, want %#x", got, want)
	}
}

func TestNilSum(t *testing.T) {
	var none *Sum
	for what, parts := range map[string][][]byte{
		"no parts":   nil,
		"a nil part": {nil},
		"a part":     {[]byte("a")},
		"parts":      {[]byte("a"), nil, run(255, 6000)},
	} {
		if none.Add(parts...) != nil {
			t.Errorf("P2.1: a nil *Sum's Add of %s is not nil", what)
		}
		if got := none.Add(parts...).Value(); got != 1 {
			t.Errorf("P2.1: a nil *Sum's Value behind %s = %d, want 1", what, got)
		}
	}
	if got := none.Value(); got != 1 {
		t.Errorf("P2.1: a nil *Sum's Value = %d, want 1", got)
	}
}

func TestASumThatNewDidNotMake(t *testing.T) {
	var s Sum
	if got := s.Value(); got != 1 {
		t.Errorf("P2.1: of no bytes %d, want 1", got)
	}
	if s.Add([]byte("abc")) != &s || s.Value() != 0x024d0127 {
		t.Errorf("P2.1: of abc %#x", s.Value())
	}
}

func TestSumsAreApart(t *testing.T) {
	first, second := New(), New()
	first.Add([]byte("abc"))
	if got := second.Value(); got != 1 {
		t.Errorf("P0.5: a sum that was told nothing became %#x", got)
	}
	second.Add([]byte("a"))
	Of(run(9, 100))
	if first.Value() != 0x024d0127 || second.Value() != 0x00620062 || New().Value() != 1 {
		t.Errorf("P0.5: %#x, %#x, %#x", first.Value(), second.Value(), New().Value())
	}
}

func TestPartsAreNeitherChangedNorKept(t *testing.T) {
	whole := run(5, 40)
	parts := make([][]byte, 2, 4)
	parts[0], parts[1] = whole[:3], whole[10:12]
	spare := parts[:4]
	spare[2], spare[3] = []byte("no part"), []byte("no part")
	want := slow(run(5, 5))
	s := New()
	if got := Of(parts...); got != want {
		t.Errorf("P0.3: Of = %#x, want %#x: spare room counts", got, want)
	}
	if got := s.Add(parts...).Value(); got != want {
		t.Errorf("P0.3: Add = %#x, want %#x: spare room counts", got, want)
	}
	if !bytes.Equal(whole, run(5, 40)) || &parts[0][0] != &whole[0] || &parts[1][0] != &whole[10] || len(parts[0]) != 3 || len(parts[1]) != 2 {
		t.Error("P0.3: the parts were changed")
	}
	if string(spare[2]) != "no part" || string(spare[3]) != "no part" {
		t.Error("P0.3: the spare room of the parts was changed")
	}
	copy(whole, run(77, 40))
	parts[0], parts[1] = nil, nil
	if got := s.Value(); got != want {
		t.Errorf("P0.3: the sum became %#x with the list that it was told", got)
	}
}
