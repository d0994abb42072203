package num

import (
	"bytes"
	"encoding/binary"
	"math"
	"math/rand"
	"strings"
	"testing"

	"remembrancer/api"
)

// edges are the numbers at which the count of bytes changes, and their neighbours.
func edges() []uint64 {
	ns := []uint64{0, 1, 2, 5, 100, 300, 1000, 65535, 65536, math.MaxInt64, 1 << 63, math.MaxUint64 - 1, math.MaxUint64}
	for bits := 7; bits < 64; bits += 7 {
		ns = append(ns, 1<<bits-1, 1<<bits, 1<<bits+1)
	}
	return ns
}

// anyNumber throws numbers of all lengths, not long ones alone.
func anyNumber(r *rand.Rand) uint64 {
	return r.Uint64() >> r.Intn(64)
}

// anyBytes throws bytes of which many are 0, 1, 127, 128, 255.
func anyBytes(r *rand.Rand, most int) []byte {
	b := make([]byte, r.Intn(most+1))
	for i := range b {
		if r.Intn(2) == 0 {
			b[i] = []byte{0, 1, 127, 128, 255}[r.Intn(5)]
		} else {
			b[i] = byte(r.Intn(256))
		}
	}
	return b
}

func TestPutWritesSevenBitsAByteLowestFirst(t *testing.T) {
	for _, c := range []struct {
		n    uint64
		want []byte
	}{
		{0, []byte{0}},
		{1, []byte{1}},
		{127, []byte{127}},
		{128, []byte{128, 1}},
		{300, []byte{172, 2}},
		{16383, []byte{255, 127}},
		{16384, []byte{128, 128, 1}},
		{1 << 63, []byte{128, 128, 128, 128, 128, 128, 128, 128, 128, 1}},
		{math.MaxUint64, []byte{255, 255, 255, 255, 255, 255, 255, 255, 255, 1}},
	} {
		if got := Put(nil, c.n); !bytes.Equal(got, c.want) {
			t.Errorf("P1.1: Put(nil, %d) = %v, want %v", c.n, got, c.want)
		}
		want := append([]byte{9, 200}, c.want...)
		if got := Put([]byte{9, 200}, c.n); !bytes.Equal(got, want) {
			t.Errorf("P1.1: Put behind two bytes of %d = %v, want %v", c.n, got, want)
		}
	}
}

func TestPutAgreesWithUvarint(t *testing.T) {
	r := rand.New(rand.NewSource(1))
	ns := edges()
	for range 5000 {
		ns = append(ns, anyNumber(r))
	}
	for _, n := range ns {
		if got, want := Put(nil, n), binary.AppendUvarint(nil, n); !bytes.Equal(got, want) {
			t.Fatalf("P1.1: Put(nil, %d) = %v, want %v", n, got, want)
		}
	}
}

func TestGetIsPutsWayBack(t *testing.T) {
	for _, n := range edges() {
		b := Put(nil, n)
		for _, tail := range [][]byte{nil, {0}, {127}, {128}, bytes.Repeat([]byte{255}, 20)} {
			got, took, e := Get(append(bytes.Clone(b), tail...))
			if got != n || took != len(b) || e != api.OK {
				t.Errorf("P1.1: Get of %v and %v = %d, %d, %d, want %d, %d, OK", b, tail, got, took, e, n, len(b))
			}
		}
	}
}

func TestGetTellsTornOfEachBeginning(t *testing.T) {
	for _, n := range edges() {
		b := Put(nil, n)
		for end := range b {
			if got, took, e := Get(b[:end]); got != 0 || took != 0 || e != api.ErrTorn {
				t.Errorf("P1.1: Get(%v) = %d, %d, %d, want 0, 0, ErrTorn", b[:end], got, took, e)
			}
		}
	}
}

func TestGetErrors(t *testing.T) {
	run := func(c byte, n int) []byte { return bytes.Repeat([]byte{c}, n) }
	with := func(b []byte, tail ...byte) []byte { return append(b, tail...) }
	for _, c := range []struct {
		what string
		b    []byte
		want api.Errno
	}{
		{"nil", nil, api.ErrTorn},
		{"empty", []byte{}, api.ErrTorn},
		{"one byte of 128", run(128, 1), api.ErrTorn},
		{"nine bytes of 128", run(128, 9), api.ErrTorn},
		{"nine bytes of 255", run(255, 9), api.ErrTorn},
		{"ten bytes of 128", run(128, 10), api.ErrForm},
		{"ten bytes of 255", run(255, 10), api.ErrForm},
		{"eleven bytes of 128", run(128, 11), api.ErrForm},
		{"many bytes of 255", run(255, 1000), api.ErrForm},
		{"0 in two bytes", []byte{128, 0}, api.ErrForm},
		{"127 in two bytes", []byte{255, 0}, api.ErrForm},
		{"128 in three bytes", []byte{128, 129, 0}, api.ErrForm},
		{"63 bits in ten bytes", with(run(255, 9), 0), api.ErrForm},
		{"0 in ten bytes", with(run(128, 9), 0), api.ErrForm},
		{"65 bits", with(run(128, 9), 2), api.ErrForm},
		{"64 bits and the 65th", with(run(255, 9), 3), api.ErrForm},
		{"70 bits", with(run(255, 9), 127), api.ErrForm},
		{"a tenth byte of 129", with(run(128, 9), 129), api.ErrForm},
		{"a tenth byte of 129 and an end", with(run(128, 9), 129, 0), api.ErrForm},
		{"an end at the eleventh byte", with(run(128, 10), 1), api.ErrForm},
	} {
		if n, took, e := Get(c.b); n != 0 || took != 0 || e != c.want {
			t.Errorf("P1.1: Get of %s = %d, %d, %d, want 0, 0, %d", c.what, n, took, e, c.want)
		}
		if n, took, e := GetInt(c.b); n != 0 || took != 0 || e != c.want {
			t.Errorf("P1.1: GetInt of %s = %d, %d, %d, want 0, 0, %d", c.what, n, took, e, c.want)
		}
		if s, took, e := GetText(c.b, math.MaxInt); s != "" || took != 0 || e != c.want {
			t.Errorf("P1.1: GetText of %s = %q, %d, %d, want \"\", 0, %d", c.what, s, took, e, c.want)
		}
		if s, took, e := GetText(c.b, -1); s != "" || took != 0 || e != c.want {
			t.Errorf("P1.1: GetText of %s, most -1 = %q, %d, %d, want \"\", 0, %d", c.what, s, took, e, c.want)
		}
	}
}

func TestGetOfTheGreatest(t *testing.T) {
	b := append(bytes.Repeat([]byte{255}, 9), 1)
	if n, took, e := Get(b); n != math.MaxUint64 || took != 10 || e != api.OK {
		t.Errorf("P1.1: Get(%v) = %d, %d, %d", b, n, took, e)
	}
}

// wantGet says what Get answers in another way: by the one list that Put makes of a number.
func wantGet(b []byte) (uint64, int, api.Errno) {
	n, took := binary.Uvarint(b[:min(len(b), 10)])
	switch {
	case took > 0 && len(binary.AppendUvarint(nil, n)) == took:
		return n, took, api.OK
	case took == 0 && len(b) < 10:
		return 0, 0, api.ErrTorn
	}
	return 0, 0, api.ErrForm
}

func checkGet(t *testing.T, b []byte) {
	t.Helper()
	was := bytes.Clone(b)
	n, took, e := Get(b)
	wantN, wantTook, wantE := wantGet(b)
	if n != wantN || took != wantTook || e != wantE {
		t.Fatalf("P1.1: Get(%v) = %d, %d, %d, want %d, %d, %d", b, n, took, e, wantN, wantTook, wantE)
	}
	if !bytes.Equal(was, b) {
		t.Fatalf("P0.3: Get changed %v to %v", was, b)
	}
	if n2, took2, e2 := Get(b); n2 != n || took2 != took || e2 != e {
		t.Fatalf("P0.5: Get(%v) answers otherwise the second time", b)
	}
}

func TestGetOfAnyBytes(t *testing.T) {
	for x := range 256 {
		checkGet(t, []byte{byte(x)})
		for y := range 256 {
			checkGet(t, []byte{byte(x), byte(y)})
			checkGet(t, append(bytes.Repeat([]byte{byte(x | 128)}, 9), byte(y)))
		}
	}
	r := rand.New(rand.NewSource(2))
	for range 20000 {
		checkGet(t, anyBytes(r, 14))
		long := anyBytes(r, 14)
		for i := range long {
			long[i] |= 128
		}
		checkGet(t, append(long, byte(r.Intn(256))))
	}
}

func TestIntsTakeTurns(t *testing.T) {
	for _, c := range []struct {
		n    int64
		want uint64
	}{
		{0, 0}, {-1, 1}, {1, 2}, {-2, 3}, {2, 4},
		{63, 126}, {-64, 127}, {64, 128}, {-65, 129},
		{math.MaxInt32, 1<<32 - 2}, {math.MinInt32, 1<<32 - 1},
		{math.MaxInt64, math.MaxUint64 - 1}, {math.MinInt64, math.MaxUint64},
		{math.MinInt64 + 1, math.MaxUint64 - 2},
	} {
		b := PutInt([]byte{7}, c.n)
		if want := Put([]byte{7}, c.want); !bytes.Equal(b, want) {
			t.Errorf("P1.1: PutInt of %d = %v, want %v", c.n, b, want)
		}
		n, took, e := GetInt(append(b[1:], 128))
		if n != c.n || took != len(b)-1 || e != api.OK {
			t.Errorf("P1.1: GetInt of PutInt of %d = %d, %d, %d", c.n, n, took, e)
		}
	}
}

func TestIntsComeBack(t *testing.T) {
	r := rand.New(rand.NewSource(3))
	for range 5000 {
		n := int64(anyNumber(r))
		if r.Intn(2) == 0 {
			n = -n
		}
		b := PutInt(nil, n)
		if want := binary.AppendVarint(nil, n); !bytes.Equal(b, want) {
			t.Fatalf("P1.1: PutInt(nil, %d) = %v, want %v", n, b, want)
		}
		if got, took, e := GetInt(b); got != n || took != len(b) || e != api.OK {
			t.Fatalf("P1.1: GetInt(%v) = %d, %d, %d, want %d", b, got, took, e, n)
		}
	}
}

func TestTextsComeBack(t *testing.T) {
	for _, s := range []string{"", "a", "abc", "\x00", "\xff\x80", "h\u00e9 \u4e16", strings.Repeat("x", 127), strings.Repeat("y", 128), strings.Repeat("z", 20000)} {
		b := Text([]byte{1, 2}, s)
		want := append(binary.AppendUvarint([]byte{1, 2}, uint64(len(s))), s...)
		if !bytes.Equal(b, want) {
			t.Errorf("P1.1: Text of %d bytes is not its length and its bytes", len(s))
		}
		for _, most := range []int{len(s), len(s) + 1, math.MaxInt} {
			got, took, e := GetText(append(bytes.Clone(b[2:]), 'q'), most)
			if got != s || took != len(b)-2 || e != api.OK {
				t.Errorf("P1.1: GetText of %d bytes, most %d: %d bytes, took %d, %d", len(s), most, len(got), took, e)
			}
		}
	}
}

func TestGetTextErrors(t *testing.T) {
	for _, c := range []struct {
		b    string
		most int
		want api.Errno
	}{
		{"\x03abc", 2, api.ErrLarge},
		{"\x03abc", 0, api.ErrLarge},
		{"\x03abc", -1, api.ErrLarge},
		{"\x03abc", math.MinInt, api.ErrLarge},
		{"\x00", -1, api.ErrLarge},
		{"\x00", math.MinInt, api.ErrLarge},
		{"\x03ab", 3, api.ErrTorn},
		{"\x03", 3, api.ErrTorn},
		{"\x01", math.MaxInt, api.ErrTorn},
		// Both too long and torn: the chapter names ErrLarge first.
		{"\x03ab", 2, api.ErrLarge},
		{"\x03", 2, api.ErrLarge},
		// Lengths at which the sum of length and bytes taken would wrap.
		{string(Put(nil, math.MaxInt64)), math.MaxInt, api.ErrTorn},
		{string(Put(nil, math.MaxInt64-8)), math.MaxInt, api.ErrTorn},
		{string(Put(nil, math.MaxInt64)), math.MaxInt - 1, api.ErrLarge},
		{string(Put(nil, 1<<63)), math.MaxInt, api.ErrLarge},
		{string(Put(nil, math.MaxUint64)), math.MaxInt, api.ErrLarge},
		{string(Put(nil, math.MaxUint64)), -1, api.ErrLarge},
	} {
		if s, took, e := GetText([]byte(c.b), c.most); s != "" || took != 0 || e != c.want {
			t.Errorf("P1.1: GetText(%q, %d) = %q, %d, %d, want \"\", 0, %d", c.b, c.most, s, took, e, c.want)
		}
	}
}

func TestGetTextTellsTornOfEachBeginning(t *testing.T) {
	b := Text(nil, strings.Repeat("k", 200))
	for end := range b {
		if s, took, e := GetText(b[:end], 200); s != "" || took != 0 || e != api.ErrTorn {
			t.Errorf("P1.1: GetText of the first %d bytes = %q, %d, %d, want ErrTorn", end, s, took, e)
		}
	}
}

func TestGetTextOfAnyBytes(t *testing.T) {
	r := rand.New(rand.NewSource(4))
	for range 20000 {
		b := anyBytes(r, 20)
		was := bytes.Clone(b)
		most := r.Intn(40) - 10
		s, took, e := GetText(b, most)
		n, head, headE := wantGet(b)
		want := api.OK
		switch {
		case headE != api.OK:
			want = headE
		case most < 0 || n > uint64(most):
			want = api.ErrLarge
		case n > uint64(len(b)-head):
			want = api.ErrTorn
		}
		if e != want {
			t.Fatalf("P1.1: GetText(%v, %d) tells %d, want %d", b, most, e, want)
		}
		if e != api.OK && (s != "" || took != 0) {
			t.Fatalf("P0.2: GetText(%v, %d) = %q, %d beside error %d", b, most, s, took, e)
		}
		if e == api.OK && (took != head+int(n) || s != string(b[head:took])) {
			t.Fatalf("P1.1: GetText(%v, %d) = %q, %d", b, most, s, took)
		}
		if !bytes.Equal(was, b) {
			t.Fatalf("P0.3: GetText changed %v to %v", was, b)
		}
	}
}

func TestGetTextIsACopy(t *testing.T) {
	b := Text(nil, "abc")
	s, _, _ := GetText(b, 3)
	copy(b[1:], "xyz")
	if s != "abc" {
		t.Errorf("P0.3: the text became %q with the list it was read from", s)
	}
}

// writers are the calls that put something behind b.
func writers() map[string]func(b []byte) []byte {
	return map[string]func(b []byte) []byte{
		"Put":        func(b []byte) []byte { return Put(b, 300) },
		"PutInt":     func(b []byte) []byte { return PutInt(b, -300) },
		"Text":       func(b []byte) []byte { return Text(b, "abc") },
		"empty Text": func(b []byte) []byte { return Text(b, "") },
	}
}

func fill(b []byte, c byte) {
	for i := range b[:cap(b)] {
		b[:cap(b)][i] = c
	}
}

func TestWritersShareNoMemory(t *testing.T) {
	for name, write := range writers() {
		for length := range 4 {
			whole := bytes.Repeat([]byte{5}, 40)
			b := whole[:length]
			first, second := write(b), write(b)
			want := bytes.Clone(first)
			if !bytes.Equal(whole, bytes.Repeat([]byte{5}, 40)) {
				t.Errorf("P1.1: %s wrote into its argument: %v", name, whole)
			}
			fill(second, 77)
			if !bytes.Equal(first, want) {
				t.Errorf("P0.3: %s: two answers share memory", name)
			}
			fill(first, 99)
			if !bytes.Equal(whole, bytes.Repeat([]byte{5}, 40)) {
				t.Errorf("P0.3: %s: what is written into its answer is seen in its argument", name)
			}
			again := write(b)
			fill(whole, 88)
			if !bytes.Equal(again, want) {
				t.Errorf("P0.3: %s: what is written into its argument is seen in its answer", name)
			}
		}
	}
}

func TestWritersTakeNilAsEmpty(t *testing.T) {
	for name, write := range writers() {
		want := write([]byte{})
		if got := write(nil); !bytes.Equal(got, want) {
			t.Errorf("P0.4: %s of nil = %v, of an empty list %v", name, got, want)
		}
		if got := write(make([]byte, 0, 30)); !bytes.Equal(got, want) {
			t.Errorf("P0.5: %s hangs on spare room: %v, not %v", name, got, want)
		}
	}
}

func TestGetsAskNothingBehindTheLength(t *testing.T) {
	whole := []byte{128, 1, 'a', 'b'}
	if n, took, e := Get(whole[:1]); n != 0 || took != 0 || e != api.ErrTorn {
		t.Errorf("P1.1: Get reads spare room: %d, %d, %d", n, took, e)
	}
	if n, took, e := GetInt(whole[:1]); n != 0 || took != 0 || e != api.ErrTorn {
		t.Errorf("P1.1: GetInt reads spare room: %d, %d, %d", n, took, e)
	}
	text := []byte{2, 'a', 'b'}
	if s, took, e := GetText(text[:2], 9); s != "" || took != 0 || e != api.ErrTorn {
		t.Errorf("P1.1: GetText reads spare room: %q, %d, %d", s, took, e)
	}
}

func TestNumbersOneBehindTheOther(t *testing.T) {
	r := rand.New(rand.NewSource(5))
	var b []byte
	var ns []uint64
	for range 300 {
		n := anyNumber(r)
		ns = append(ns, n)
		b = Put(b, n)
	}
	for _, want := range ns {
		n, took, e := Get(b)
		if n != want || e != api.OK {
			t.Fatalf("P1.1: read %d, %d, want %d", n, e, want)
		}
		b = b[took:]
	}
	if len(b) != 0 {
		t.Errorf("P1.1: %d bytes are left", len(b))
	}
}
