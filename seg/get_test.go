package seg

import (
	"bytes"
	"encoding/binary"
	"math"
	"math/rand"
	"slices"
	"testing"

	"remembrancer/api"
)

// checkGet holds one answer of Get against what is wanted.
func checkGet(t *testing.T, name string, b []byte, from int, ms []api.Mut, n int, e api.Errno) {
	t.Helper()
	gotFrom, gotMs, gotN, gotE := Get(b)
	if gotFrom != from || !slices.Equal(gotMs, ms) || gotN != n || gotE != e {
		t.Errorf("P11.1: Get, %s: from %d, %d changes, %d, %d, not %d, %d changes, %d, %d", name, gotFrom, len(gotMs), gotN, gotE, from, len(ms), n, e)
	}
}

// checkNoHead is checkGet where the head is not right, and Whole beside it.
func checkNoHead(t *testing.T, name string, b []byte, e api.Errno) {
	t.Helper()
	checkGet(t, name, b, 0, nil, 0, e)
	if _, ms, _, _ := Get(b); ms != nil {
		t.Errorf("P11.1: Get, %s: without a head the changes are not nil", name)
	}
	checkWhole(t, name, b, 1, 0, nil, e)
	checkWhole(t, name, b, 0, 0, nil, e)
}

// checkWhole holds one answer of Whole against what is wanted.
func checkWhole(t *testing.T, name string, b []byte, from, upto int, ms []api.Mut, e api.Errno) {
	t.Helper()
	gotMs, gotE := Whole(b, from, upto)
	if !slices.Equal(gotMs, ms) || gotE != e {
		t.Errorf("P11.1: Whole, %s, %d to %d: %d changes, %d, not %d changes, %d", name, from, upto, len(gotMs), gotE, len(ms), e)
	}
	if gotE != api.OK && gotMs != nil {
		t.Errorf("P11.1: Whole, %s: beside an error the changes are not nil", name)
	}
}

// uvar is n as numbers are written.
func uvar(n uint64) []byte {
	return binary.AppendUvarint(nil, n)
}

// headOf is a head's frame with any bytes in the number's place.
func headOf(number ...byte) []byte {
	return slowFrame(append([]byte("S"), number...))
}

// bounds are where the frames of a segment of these changes end, the head's first.
func bounds(from int, ms ...api.Mut) []int {
	var out []int
	for i := range len(ms) + 1 {
		out = append(out, len(slowSeg(from, ms[:i]...)))
	}
	return out
}

func TestGetOfWhatPutWrote(t *testing.T) {
	all := ofEachKind()
	for _, from := range []int{1, 2, 127, 128, 300, 9000} {
		for n := range len(all) + 1 {
			b, _ := Put(from, all[:n]...)
			checkGet(t, "what Put wrote", b, from, all[:n], len(b), api.OK)
			checkWhole(t, "what Put wrote", b, from, from+n-1, all[:n], api.OK)
		}
	}
	for _, m := range all {
		b, _ := Put(10000, m)
		checkGet(t, "the last number", b, 10000, []api.Mut{m}, len(b), api.OK)
		checkWhole(t, "the last number", b, 10000, 10000, []api.Mut{m}, api.OK)
	}
}

func TestGetOfKnownBytes(t *testing.T) {
	b := []byte{
		2, 0x55, 0, 0xa9, 0, 'S', 1,
		6, 28, 0, 93, 0, 5, 2, 0, 10, 7, 3,
		4, 3, 0, 12, 0, 2, 0, 0, 0,
	}
	ms := []api.Mut{{Kind: api.MPut, Key: api.Key{Group: 2, Ns: 0, Id: 10}, F: 7, V: -2}, {Kind: api.MDel}}
	checkGet(t, "known bytes", b, 1, ms, 27, api.OK)
	checkGet(t, "known bytes, and one more", append(b, 4), 1, ms, 27, api.ErrTorn)
	checkWhole(t, "known bytes", b, 1, 2, ms, api.OK)
}

func TestGetOfHeadsAlone(t *testing.T) {
	for from := 1; from <= 10000; from++ {
		b := Head(from)
		gotFrom, ms, n, e := Get(b)
		if gotFrom != from || len(ms) != 0 || n != len(b) || e != api.OK {
			t.Fatalf("P11.1: Get of the head of %d: %d, %v, %d, %d", from, gotFrom, ms, n, e)
		}
		checkWhole(t, "just a head", b, from, from-1, nil, api.OK)
	}
}

func TestGetOfNoBytes(t *testing.T) {
	checkNoHead(t, "nil", nil, api.ErrTorn)
	checkNoHead(t, "no bytes", []byte{}, api.ErrTorn)
	checkNoHead(t, "no bytes, with spare room", Head(1)[:0], api.ErrTorn)
}

func TestGetOfHeadsThatAreNotRight(t *testing.T) {
	behind := slowFrame(slowChange(set(1)))
	for _, c := range []struct {
		name string
		b    []byte
		e    api.Errno
	}{
		{"a frame of no bytes", slowFrame(nil), api.ErrForm},
		{"no number", headOf(), api.ErrForm},
		{"another letter", slowFrame([]byte("s\x01")), api.ErrForm},
		{"a base's letter", slowFrame([]byte("B\x01")), api.ErrForm},
		{"a number without a letter", slowFrame([]byte{1}), api.ErrForm},
		{"a letter behind its number", slowFrame([]byte("\x01S")), api.ErrForm},
		{"a change", behind, api.ErrForm},
		{"one byte behind its number", headOf(1, 0), api.ErrForm},
		{"one byte behind its number", headOf(1, 1), api.ErrForm},
		{"a head behind its number", headOf(1, 'S', 1), api.ErrForm},
		{"a change behind its number", headOf(append([]byte{1}, slowChange(set(1))...)...), api.ErrForm},
		{"many bytes behind its number", headOf(append([]byte{1}, make([]byte, 4000)...)...), api.ErrForm},
		{"a number that ends too early", headOf(128), api.ErrForm},
		{"a number that ends too early", headOf(255, 255, 255, 255, 255, 255, 255, 255, 255), api.ErrForm},
		{"a number of more bytes than it needs", headOf(129, 0), api.ErrForm},
		{"a number of more than 64 bits", headOf(255, 255, 255, 255, 255, 255, 255, 255, 255, 2), api.ErrForm},
		{"0", headOf(0), api.ErrRange},
		{"10,001", headOf(uvar(10001)...), api.ErrRange},
		{"10,002", headOf(uvar(10002)...), api.ErrRange},
		{"16,384", headOf(uvar(16384)...), api.ErrRange},
		{"2^32 and 1", headOf(uvar(1<<32 + 1)...), api.ErrRange},
		{"the greatest int", headOf(uvar(math.MaxInt64)...), api.ErrRange},
		{"2^63", headOf(uvar(1 << 63)...), api.ErrRange},
		{"2^63 and 1", headOf(uvar(1<<63 + 1)...), api.ErrRange},
		{"the greatest number", headOf(uvar(math.MaxUint64)...), api.ErrRange},
		{"0, and a byte behind it", headOf(0, 1), api.ErrForm},
		{"10,001, and a byte behind it", headOf(append(uvar(10001), 1)...), api.ErrForm},
		{"a length of more bytes than it needs", join([]byte{130, 0}, Head(1)[1:]), api.ErrForm},
		{"a length beyond that of a frame", join(uvar(4097), make([]byte, 5000)), api.ErrLarge},
		{"a frame that is too long, and torn", uvar(4097), api.ErrLarge},
		{"a sum of 0", join([]byte{2, 0, 0, 0, 0}, []byte("S\x01")), api.ErrSum},
		{"nothing but 0", make([]byte, 100), api.ErrSum},
		{"nothing but 255", bytes.Repeat([]byte{255}, 100), api.ErrForm},
	} {
		checkNoHead(t, c.name, c.b, c.e)
		checkNoHead(t, c.name+", a change behind it", join(c.b, behind), c.e)
		checkNoHead(t, c.name+", a head behind it", join(c.b, Head(1)), c.e)
		checkNoHead(t, c.name+", no frame behind it", join(c.b, []byte{255}), c.e)
	}
}

func TestGetOfTornHeads(t *testing.T) {
	for _, from := range []int{1, 127, 128, 10000} {
		for n := range Head(from) {
			checkNoHead(t, "a torn head", Head(from)[:n], api.ErrTorn)
		}
	}
}

// TestGetOfHeadsWithAByteTurned: the length is the first byte, the sum and the text are all the others.
func TestGetOfHeadsWithAByteTurned(t *testing.T) {
	for _, from := range []int{1, 127, 128, 10000} {
		for i := range Head(from) {
			for bit := range 8 {
				b := Head(from)
				b[i] ^= 1 << bit
				if i > 0 {
					checkNoHead(t, "a byte turned", b, api.ErrSum)
					continue
				}
				_, _, _, e := slowGet(b)
				checkNoHead(t, "the length turned", b, e)
			}
		}
	}
}

// TestGetOfCutSegments: the changes whose frames are whole are told, whatever is left of the next.
func TestGetOfCutSegments(t *testing.T) {
	ms := []api.Mut{set(1), del(), push(), {Kind: api.MPut, Key: key(), F: 3, V: 300}, {Kind: api.MCut, Key: key(), F: 3}}
	for _, from := range []int{1, 128, 9996} {
		whole, ends := slowSeg(from, ms...), bounds(from, ms...)
		for n := ends[0]; n <= len(whole); n++ {
			there := 0
			for there < len(ms) && ends[there+1] <= n {
				there++
			}
			want := api.ErrTorn
			if ends[there] == n {
				want = api.OK
			}
			checkGet(t, "a cut segment", whole[:n], from, ms[:there], ends[there], want)
			if want == api.OK {
				checkWhole(t, "cut at a frame's end", whole[:n], from, from+there-1, ms[:there], api.OK)
				continue
			}
			checkWhole(t, "a cut segment", whole[:n], from, from+there-1, nil, api.ErrTorn)
			checkWhole(t, "a cut segment", whole[:n], from, from+len(ms)-1, nil, api.ErrTorn)
		}
	}
}

// TestGetOfSegmentsWithAByteTurned: in a frame's sum or text; each change has its length in one byte.
func TestGetOfSegmentsWithAByteTurned(t *testing.T) {
	ms := []api.Mut{set(1), del(), push(), {Kind: api.MPut, Key: key(), F: 3, V: 300}, {Kind: api.MCut, Key: key(), F: 3}}
	whole, ends := slowSeg(9996, ms...), bounds(9996, ms...)
	for k := range ms {
		for i := ends[k]; i < ends[k+1]; i++ {
			for turn := 1; turn < 256; turn++ {
				b := bytes.Clone(whole)
				b[i] ^= byte(turn)
				want := api.ErrSum
				if i == ends[k] {
					_, _, _, want = slowGet(b)
				}
				checkGet(t, "a byte turned", b, 9996, ms[:k], ends[k], want)
				checkWhole(t, "a byte turned", b, 9996, 10000, nil, want)
			}
		}
	}
}

// noChanges are texts that are not just one change.
func noChanges() [][]byte {
	one := slowChange(set(1))
	return [][]byte{
		nil,
		{0},
		{1},
		one[:3],
		one[:4],
		append(slowChange(set(1)), 0),
		append(slowChange(del()), 0),
		append(slowChange(push()), 1),
		append(slowChange(api.Mut{Kind: api.MCut, Key: key(), F: 3}), 0),
		append(slowChange(set(1)), one...),
		[]byte("S\x01"),
		[]byte("S\x05"),
		{0, 1, 1, 5, 2},
		{7, 1, 1, 5, 2},
		{1, 4, 1, 5, 2},
		{1, 1, 2, 5, 2},
		{1, 1, 1, 24, 2},
		{5, 1, 1, 5, 8, 2},
		{6, 1, 1, 5, 8},
		{5, 1, 1, 5, 7},
		{6, 1, 1, 5},
		{1, 1, 1, 5, 128},
		{1, 1, 1, 5, 130, 0},
		{129, 0, 1, 1, 5, 2},
		join([]byte{1, 1, 1, 5}, bytes.Repeat([]byte{255}, 10)),
		make([]byte, 4096),
		bytes.Repeat(one, 800),
	}
}

func TestGetOfFramesThatAreNoChange(t *testing.T) {
	ms := []api.Mut{set(1), del(), push()}
	for _, text := range noChanges() {
		for k := range len(ms) + 1 {
			ahead := slowSeg(5, ms[:k]...)
			b := join(ahead, slowFrame(text))
			for _, behind := range [][]byte{nil, slowFrame(slowChange(set(9))), {255}, bytes.Repeat([]byte{255}, 20), slowFrame(nil), slowHead(5 + k), uvar(5000)} {
				checkGet(t, "a frame that is no change", join(b, behind), 5, ms[:k], len(ahead), api.ErrForm)
				checkWhole(t, "a frame that is no change", join(b, behind), 5, 5+k-1, nil, api.ErrForm)
			}
		}
	}
}

// TestGetOfWrongFrames: bytes behind changes that are right, which are no frame.
func TestGetOfWrongFrames(t *testing.T) {
	ms := []api.Mut{set(1), del()}
	right := slowSeg(300, ms...)
	for _, c := range []struct {
		name string
		b    []byte
		e    api.Errno
	}{
		{"a length of more bytes than it needs", []byte{128, 0, 1, 0, 0, 0}, api.ErrForm},
		{"a length of more than 64 bits", bytes.Repeat([]byte{255}, 10), api.ErrForm},
		{"a length that is cut off", []byte{128}, api.ErrTorn},
		{"a length of 4,097", slowFrame(make([]byte, 4097)), api.ErrLarge},
		{"a length of 4,097, torn", uvar(4097), api.ErrLarge},
		{"a huge length", uvar(math.MaxUint64), api.ErrLarge},
		{"a length of 4,096, torn", uvar(4096), api.ErrTorn},
		{"another sum", []byte{0, 0, 0, 0, 0}, api.ErrSum},
		{"another sum, of a change", join([]byte{5, 1, 2, 3, 4}, slowChange(set(1))), api.ErrSum},
	} {
		checkGet(t, c.name, join(right, c.b), 300, ms, len(right), c.e)
		checkWhole(t, c.name, join(right, c.b), 300, 301, nil, c.e)
		checkWhole(t, c.name, join(right, c.b), 300, 302, nil, c.e)
		if c.e != api.ErrTorn {
			checkGet(t, c.name+", a change behind it", join(right, c.b, slowFrame(slowChange(del()))), 300, ms, len(right), c.e)
		}
	}
}

func TestGetOfNumbersThatGoBeyond(t *testing.T) {
	for _, from := range []int{9990, 9999, 10000} {
		room := 10000 - from + 1
		ms := times(set(1), room)
		right := slowSeg(from, ms...)
		checkGet(t, "up to 10,000", right, from, ms, len(right), api.OK)
		for _, more := range []int{1, 2, 50} {
			b := slowSeg(from, times(set(1), room+more)...)
			checkGet(t, "beyond 10,000", b, from, ms, len(right), api.ErrRange)
			checkWhole(t, "beyond 10,000", b, from, 10000, nil, api.ErrRange)
			checkWhole(t, "beyond 10,000", b, from, 10000+more, nil, api.ErrRange)
		}
		beyond := join(right, slowFrame(slowChange(set(1))))
		checkGet(t, "beyond, then torn", join(beyond, []byte{9}), from, ms, len(right), api.ErrRange)
		checkGet(t, "beyond, then no change", join(beyond, slowFrame(nil)), from, ms, len(right), api.ErrRange)
		for _, text := range noChanges() {
			checkGet(t, "no change, and beyond", join(right, slowFrame(text)), from, ms, len(right), api.ErrForm)
		}
		torn := slowFrame(slowChange(set(1)))
		for n := 1; n < len(torn); n++ {
			checkGet(t, "torn, and beyond", join(right, torn[:n]), from, ms, len(right), api.ErrTorn)
		}
		torn[4] ^= 1
		checkGet(t, "another sum, and beyond", join(right, torn), from, ms, len(right), api.ErrSum)
		checkGet(t, "too large, and beyond", join(right, uvar(4097)), from, ms, len(right), api.ErrLarge)
	}
}

// TestGetOfLongSegments: a segment that Put would not write for its length is read; only numbers bound it.
func TestGetOfLongSegments(t *testing.T) {
	ms := times(push(), 10000)
	b := slowSeg(1, ms...)
	if len(b) <= 65536 {
		t.Fatal("the test's own segment is short")
	}
	checkGet(t, "10,000 changes", b, 1, ms, len(b), api.OK)
	checkWhole(t, "10,000 changes", b, 1, 10000, ms, api.OK)
	more := slowSeg(1, times(push(), 10001)...)
	checkGet(t, "10,001 changes", more, 1, ms, len(b), api.ErrRange)
	most := slowSeg(2, times(push(), 200000)...)
	checkGet(t, "200,000 changes", most, 2, ms[1:], len(b)-19, api.ErrRange)
}

func TestWholeOfOtherNumbers(t *testing.T) {
	far := append(beyond(), 50, 10000)
	for _, from := range []int{1, 2, 128, 5000, 9996} {
		for n := range 4 {
			ms := ofEachKind()[:n]
			b := slowSeg(from, ms...)
			upto := from + n - 1
			checkWhole(t, "just these", b, from, upto, ms, api.OK)
			for df := -2; df <= 2; df++ {
				for du := -2; du <= 2; du++ {
					if df != 0 || du != 0 {
						checkWhole(t, "others near by", b, from+df, upto+du, nil, api.ErrForm)
					}
				}
			}
			for _, x := range far {
				checkWhole(t, "another from", b, x, upto, nil, api.ErrForm)
				if x != upto {
					checkWhole(t, "another upto", b, from, x, nil, api.ErrForm)
				}
				for _, y := range far {
					checkWhole(t, "both others", b, x, y, nil, api.ErrForm)
				}
			}
		}
	}
}

// TestWholeTellsGetsErrorFirst: of a segment that is not right it does not matter which numbers are asked for.
func TestWholeTellsGetsErrorFirst(t *testing.T) {
	right := slowSeg(7, set(1), set(2))
	sum := bytes.Clone(right)
	sum[len(sum)-1] ^= 1
	for _, from := range append(beyond(), 7, 8) {
		for _, upto := range append(beyond(), 6, 7, 8, 9) {
			checkWhole(t, "torn", right[:len(right)-1], from, upto, nil, api.ErrTorn)
			checkWhole(t, "another sum", sum, from, upto, nil, api.ErrSum)
			checkWhole(t, "too large", join(right, uvar(4097)), from, upto, nil, api.ErrLarge)
			checkWhole(t, "numbers beyond", slowSeg(10000, set(1), set(2)), from, upto, nil, api.ErrRange)
			checkWhole(t, "no head", right[7:], from, upto, nil, api.ErrForm)
			checkWhole(t, "no bytes", nil, from, upto, nil, api.ErrTorn)
		}
	}
}

// anyText is a text that is a change more often than not.
func anyText(r *rand.Rand) []byte {
	text := slowChange(anyMut(r))
	switch r.Intn(20) {
	case 0:
		text = append(text, byte(r.Intn(3)))
	case 1:
		text = text[:r.Intn(len(text))]
	case 2:
		text[r.Intn(len(text))] = byte(r.Intn(256))
	case 3:
		text[r.Intn(len(text))] ^= 128
	}
	return text
}

// anyHead is a head's text that is right more often than not.
func anyHead(r *rand.Rand) []byte {
	text := append([]byte("S"), uvar(uint64(anyFrom(r)))...)
	switch r.Intn(30) {
	case 0:
		text = append(text, byte(r.Intn(3)))
	case 1:
		text = text[:r.Intn(len(text))]
	case 2:
		text[r.Intn(len(text))] ^= 128
	case 3:
		text = append([]byte("S"), uvar(uint64(oddNumber(r)))...)
	}
	return text
}

// anySegment is frames, and something done to their bytes.
func anySegment(r *rand.Rand) []byte {
	b := slowFrame(anyHead(r))
	for range r.Intn(8) {
		b = append(b, slowFrame(anyText(r))...)
	}
	i := r.Intn(len(b))
	switch r.Intn(6) {
	case 0:
		b[i] ^= 1 << r.Intn(8)
	case 1:
		b = b[:i]
	case 2:
		b = append(b, uvar(uint64(r.Intn(10000)))...)
	}
	return b
}

func TestAgainstSlowGet(t *testing.T) {
	r := rand.New(rand.NewSource(111))
	seen := map[api.Errno]int{}
	for range 100000 {
		b := anySegment(r)
		from, ms, n, e := slowGet(b)
		checkGet(t, "any bytes", b, from, ms, n, e)
		upto := from + len(ms) - 1 + r.Intn(2)
		want, wantE := slowWhole(b, from, upto)
		checkWhole(t, "any bytes", b, from, upto, want, wantE)
		seen[e]++
	}
	for _, e := range []api.Errno{api.OK, api.ErrForm, api.ErrRange, api.ErrSum, api.ErrTorn, api.ErrLarge} {
		if seen[e] < 200 {
			t.Errorf("the bytes that are tried lead to %d only %d times", e, seen[e])
		}
	}
}

func TestGetOfAnyBytes(t *testing.T) {
	r := rand.New(rand.NewSource(1111))
	for range 20000 {
		b := make([]byte, r.Intn(60))
		r.Read(b)
		from, ms, n, e := slowGet(b)
		checkGet(t, "bytes without a rule", b, from, ms, n, e)
		b = join(Head(3), b)
		from, ms, n, e = slowGet(b)
		checkGet(t, "bytes without a rule, behind a head", b, from, ms, n, e)
	}
}

// TestGetLeavesItsBytes: those handed in, and what lies in their spare room.
func TestGetLeavesItsBytes(t *testing.T) {
	row := slowSeg(9980, ofEachKind()...)
	was := bytes.Clone(row)
	for n := range row {
		Get(row[:n])
		Whole(row[:n], 9980, 9981)
	}
	if !bytes.Equal(row, was) {
		t.Error("P0.3: Get or Whole changes what is handed in, or its spare room")
	}
}

// scribble writes over all of ms, spare room too.
func scribble(ms []api.Mut) {
	ms = ms[:cap(ms)]
	for i := range ms {
		ms[i] = api.Mut{Kind: -7, F: -7, V: -7}
	}
}

// TestToldChangesAreTheCallersOwn: whoever writes into an answer, or into what was handed in, changes no answer.
func TestToldChangesAreTheCallersOwn(t *testing.T) {
	all := ofEachKind()
	good := slowSeg(7, all...)
	bad := join(good, []byte{1})
	for _, b := range [][]byte{bytes.Clone(good), bad} {
		_, first, _, _ := Get(b)
		_, second, _, _ := Get(b)
		third, _ := Whole(good, 7, 7+len(all)-1)
		scribble(first)
		if !slices.Equal(second, all) || !slices.Equal(third, all) {
			t.Error("P0.3: who writes into an answer changes another one")
		}
		scribble(third)
		if again, e := Whole(good, 7, 7+len(all)-1); !slices.Equal(again, all) || e != api.OK {
			t.Error("P0.3: Whole, asked again, tells other changes")
		}
		overwrite(b)
		if !slices.Equal(second, all) {
			t.Error("P0.3: an answer changes with the bytes that it was read from")
		}
	}
}
