package frame

import (
	"bytes"
	"encoding/binary"
	"hash/adler32"
	"math/rand"
	"slices"
	"testing"

	"remembrancer/api"
)

// slow writes frames as the chapter says, by other means than the package's.
func slow(b []byte, texts ...[]byte) []byte {
	out := bytes.Clone(b)
	for _, text := range texts {
		out = binary.AppendUvarint(out, uint64(len(text)))
		out = binary.LittleEndian.AppendUint32(out, adler32.Checksum(text))
		out = append(out, text...)
	}
	return out
}

func run(c byte, n int) []byte {
	return bytes.Repeat([]byte{c}, n)
}

func join(parts ...[]byte) []byte {
	return bytes.Join(parts, nil)
}

func anyBytes(r *rand.Rand, most int) []byte {
	b := make([]byte, r.Intn(most+1))
	r.Read(b)
	return b
}

func anyTexts(r *rand.Rand) [][]byte {
	texts := make([][]byte, r.Intn(6))
	for i := range texts {
		texts[i] = anyBytes(r, []int{0, 3, 130, 4096}[r.Intn(4)])
	}
	return texts
}

func sameTexts(a, b [][]byte) bool {
	return slices.EqualFunc(a, b, bytes.Equal)
}

// checkGet holds one answer of Get against what is wanted.
func checkGet(t *testing.T, name string, b, text []byte, n int, e api.Errno) {
	t.Helper()
	gotText, gotN, gotE := Get(b)
	if !bytes.Equal(gotText, text) || gotN != n || gotE != e {
		t.Errorf("P3.1: Get, %s: %d bytes, %d, %d, not %d bytes, %d, %d", name, len(gotText), gotN, gotE, len(text), n, e)
	}
	if gotE != api.OK && gotText != nil {
		t.Errorf("P0.2: Get, %s: beside an error the text is not nil", name)
	}
}

// checkAll holds one answer of All against what is wanted.
func checkAll(t *testing.T, name string, b []byte, texts [][]byte, n int, e api.Errno) {
	t.Helper()
	gotTexts, gotN, gotE := All(b)
	if !sameTexts(gotTexts, texts) || gotN != n || gotE != e {
		t.Errorf("P3.1: All, %s: %d texts, %d, %d, not %d texts, %d, %d", name, len(gotTexts), gotN, gotE, len(texts), n, e)
	}
}

func TestPutKnownBytes(t *testing.T) {
	for i, c := range []struct {
		b     []byte
		texts [][]byte
		want  []byte
	}{
		{nil, nil, nil},
		{[]byte{}, [][]byte{}, nil},
		{[]byte{9, 8}, nil, []byte{9, 8}},
		{nil, [][]byte{nil}, []byte{0, 1, 0, 0, 0}},
		{nil, [][]byte{{}}, []byte{0, 1, 0, 0, 0}},
		{nil, [][]byte{[]byte("a")}, []byte{1, 0x62, 0, 0x62, 0, 'a'}},
		{[]byte{9}, [][]byte{[]byte("abc")}, []byte{9, 3, 0x27, 0x01, 0x4d, 0x02, 'a', 'b', 'c'}},
		{nil, [][]byte{nil, []byte("a"), nil}, []byte{0, 1, 0, 0, 0, 1, 0x62, 0, 0x62, 0, 'a', 0, 1, 0, 0, 0}},
	} {
		if got := Put(c.b, c.texts...); !bytes.Equal(got, c.want) {
			t.Errorf("P3.1, %d: Put %v, not %v", i, got, c.want)
		}
	}
}

func TestLengthsAtTheEdges(t *testing.T) {
	for _, c := range []struct {
		length int
		head   []byte
	}{{1, []byte{1}}, {127, []byte{127}}, {128, []byte{128, 1}}, {4095, []byte{255, 31}}, {4096, []byte{128, 32}}} {
		text := run(7, c.length)
		got := Put(nil, text)
		if !bytes.HasPrefix(got, c.head) || len(got) != len(c.head)+4+c.length || !bytes.Equal(got, slow(nil, text)) {
			t.Errorf("P3.1: a text of %d bytes: %d bytes, the first of them %v", c.length, len(got), got[:2])
		}
		checkGet(t, "a length at an edge", got, text, len(got), api.OK)
	}
}

func TestPutOfATextThatIsTooLong(t *testing.T) {
	b := []byte{1, 2}
	long := run(7, 4097)
	for i, texts := range [][][]byte{{long}, {[]byte("a"), long}, {long, []byte("a")}, {nil, long, long[:4096]}, {run(0, 100000)}} {
		if got := Put(b, texts...); !bytes.Equal(got, b) {
			t.Errorf("P3.1, %d: a text that is too long: %d bytes, not b", i, len(got))
		}
		if got := Put(nil, texts...); len(got) != 0 {
			t.Errorf("P3.1, %d: a text that is too long, behind no b: %d bytes", i, len(got))
		}
	}
}

func TestThereAndBack(t *testing.T) {
	r := rand.New(rand.NewSource(1))
	for range 500 {
		b, texts := anyBytes(r, 20), anyTexts(r)
		got := Put(b, texts...)
		if !bytes.Equal(got, slow(b, texts...)) {
			t.Fatalf("P3.1: Put of %d texts: %d bytes, another way of writing: %d", len(texts), len(got), len(slow(b, texts...)))
		}
		frames := got[len(b):]
		checkAll(t, "what Put wrote", frames, texts, len(frames), api.OK)
		if len(texts) > 0 {
			checkGet(t, "what Put wrote", frames, texts[0], len(slow(nil, texts[0])), api.OK)
		}
		one := bytes.Clone(b)
		for _, text := range texts {
			one = Put(one, text)
		}
		if !bytes.Equal(one, got) {
			t.Fatal("P3.1: texts that are put one by one are as those put at once")
		}
	}
}

func TestGetOfCutFrames(t *testing.T) {
	for _, text := range [][]byte{nil, []byte("a"), []byte("abc"), run(200, 127), run(3, 300)} {
		whole := slow(nil, text)
		for n := range whole {
			checkGet(t, "a frame that is cut off", whole[:n], nil, 0, api.ErrTorn)
		}
		checkGet(t, "a whole frame", whole, text, len(whole), api.OK)
		checkGet(t, "a frame and more", join(whole, []byte{255, 255}), text, len(whole), api.OK)
		checkGet(t, "a frame and another", join(whole, slow(nil, []byte("z"))), text, len(whole), api.OK)
	}
	checkGet(t, "no bytes", []byte{}, nil, 0, api.ErrTorn)
	checkGet(t, "nil", nil, nil, 0, api.ErrTorn)
}

func TestGetOfChangedBytes(t *testing.T) {
	for _, text := range [][]byte{nil, []byte("a"), []byte("abcdef"), run(200, 200)} {
		whole := slow(nil, text)
		head := len(whole) - len(text) - 4
		for i := head; i < len(whole); i++ {
			for _, bit := range []byte{1, 16, 128} {
				b := bytes.Clone(whole)
				b[i] ^= bit
				checkGet(t, "a byte that is another one", b, nil, 0, api.ErrSum)
			}
		}
	}
	swapped := slow(nil, []byte("ab"))
	swapped[5], swapped[6] = swapped[6], swapped[5]
	checkGet(t, "two bytes that changed places", swapped, nil, 0, api.ErrSum)
	shorter := slow(nil, []byte("ab"))
	shorter[0] = 1
	checkGet(t, "a shorter length", shorter, nil, 0, api.ErrSum)
	longer := slow(nil, []byte("ab"))
	longer[0] = 3
	checkGet(t, "a longer length", longer, nil, 0, api.ErrTorn)
	checkGet(t, "a longer length, with bytes for it", append(longer, 1), nil, 0, api.ErrSum)
	reversed := []byte{1, 0, 0x62, 0, 0x62, 'a'}
	checkGet(t, "a sum whose highest byte is first", reversed, nil, 0, api.ErrSum)
	checkGet(t, "no text with a sum of 0", make([]byte, 5), nil, 0, api.ErrSum)
}

func TestGetOfWrongLengths(t *testing.T) {
	long := run(7, 4097)
	huge := binary.AppendUvarint(nil, 1<<63+5)
	most := binary.AppendUvarint(nil, 1<<64-1)
	for _, c := range []struct {
		name string
		b    []byte
		e    api.Errno
	}{
		{"more bytes than it needs", []byte{0x80, 0}, api.ErrForm},
		{"more bytes than it needs, in a frame that is right else", join([]byte{0x81, 0}, slow(nil, []byte("a"))[1:]), api.ErrForm},
		{"more than 64 bits", join(run(255, 9), []byte{2}), api.ErrForm},
		{"ten bytes of 128 or more", run(255, 10), api.ErrForm},
		{"nine bytes of 128 or more", run(255, 9), api.ErrTorn},
		{"a length that is cut off", []byte{0x80}, api.ErrTorn},
		{"4,097 with all its bytes", slow(nil, long), api.ErrLarge},
		{"4,097 alone", []byte{129, 32}, api.ErrLarge},
		{"4,097 and a wrong sum", join([]byte{129, 32}, make([]byte, 5000)), api.ErrLarge},
		{"2^32", binary.AppendUvarint(nil, 1<<32), api.ErrLarge},
		{"2^63 and more", huge, api.ErrLarge},
		{"2^63 and more, with bytes behind it", join(huge, make([]byte, 100)), api.ErrLarge},
		{"2^64 - 1", join(most, make([]byte, 9)), api.ErrLarge},
		{"2^64 - 4, a sum's bytes short of 2^64", join(binary.AppendUvarint(nil, 1<<64-4), make([]byte, 9)), api.ErrLarge},
		{"4,096 alone", []byte{128, 32}, api.ErrTorn},
		{"4,096, a byte too few, a wrong sum", join([]byte{128, 32}, make([]byte, 4+4095)), api.ErrTorn},
		{"4,096 and a wrong sum", join([]byte{128, 32}, make([]byte, 4+4096)), api.ErrSum},
	} {
		checkGet(t, c.name, c.b, nil, 0, c.e)
		checkAll(t, c.name, c.b, nil, 0, c.e)
		good := slow(nil, []byte("ab"), nil)
		checkAll(t, c.name+", behind right ones", join(good, c.b), [][]byte{[]byte("ab"), nil}, len(good), c.e)
	}
}

func TestAllOfNothing(t *testing.T) {
	checkAll(t, "nil", nil, nil, 0, api.OK)
	checkAll(t, "no bytes", []byte{}, nil, 0, api.OK)
	checkAll(t, "one empty text", slow(nil, nil), [][]byte{nil}, 5, api.OK)
}

func TestAllCutAnywhere(t *testing.T) {
	texts := [][]byte{[]byte("ab"), nil, run(5, 130), []byte("c"), nil}
	all := slow(nil, texts...)
	ends := []int{0}
	for i := range texts {
		ends = append(ends, len(slow(nil, texts[:i+1]...)))
	}
	for n := range len(all) + 1 {
		whole, e := 0, api.ErrTorn
		for i, end := range ends {
			if end <= n {
				whole = i
			}
			if end == n {
				e = api.OK
			}
		}
		checkAll(t, "cut off anywhere", all[:n], texts[:whole], ends[whole], e)
	}
}

func TestAllEndsAtTheFirstError(t *testing.T) {
	wrong := slow(nil, []byte("bad"))
	wrong[5]++
	good := slow(nil, []byte("a"), []byte("b"))
	last := slow(nil, []byte("c"))
	checkAll(t, "a wrong one in the midst", join(good, wrong, last), [][]byte{[]byte("a"), []byte("b")}, len(good), api.ErrSum)
	checkAll(t, "a wrong one first", join(wrong, good), nil, 0, api.ErrSum)
	checkAll(t, "of two wrong ones the first counts", join(good, []byte{0x81, 0}, wrong), [][]byte{[]byte("a"), []byte("b")}, len(good), api.ErrForm)
}

func TestAllIsGetAgainAndAgain(t *testing.T) {
	r := rand.New(rand.NewSource(2))
	for range 500 {
		b := slow(nil, anyTexts(r)...)
		if len(b) > 0 && r.Intn(2) == 0 {
			b[r.Intn(len(b))] ^= byte(1 + r.Intn(255))
		}
		b = join(b[:r.Intn(len(b)+1)], anyBytes(r, 3))
		var texts [][]byte
		n, e := 0, api.OK
		for n < len(b) {
			text, took, err := Get(b[n:])
			if err != api.OK {
				e = err
				break
			}
			texts = append(texts, text)
			n += took
		}
		checkAll(t, "Get again and again", b, texts, n, e)
	}
}

func TestAnyBytesArePassedOver(t *testing.T) {
	r := rand.New(rand.NewSource(3))
	for range 20000 {
		b := anyBytes(r, 12)
		text, n, e := Get(b)
		if e == api.OK && !bytes.Equal(slow(nil, text), b[:n]) {
			t.Fatalf("P3.1: Get(%v) tells a frame that is not there", b)
		}
		if e != api.OK && (text != nil || n != 0) {
			t.Fatalf("P0.2: Get(%v) tells %v, %d beside %d", b, text, n, e)
		}
		All(b)
	}
}

func TestManyTexts(t *testing.T) {
	texts := make([][]byte, 100000)
	b := Put(nil, texts...)
	if len(b) != 5*len(texts) {
		t.Fatalf("P3.1: %d bytes of %d empty texts", len(b), len(texts))
	}
	checkAll(t, "many", b, texts, len(b), api.OK)
}

func TestArgumentsStayAsTheyAre(t *testing.T) {
	room := run(9, 60)
	b := room[:3]
	text := []byte("abcdef")
	texts := append(make([][]byte, 0, 8), text[:2], text[2:3])
	got := Put(b, texts...)
	if !bytes.Equal(room, run(9, 60)) || string(text) != "abcdef" || len(texts[:8][2]) != 0 {
		t.Fatal("P0.3: Put writes into what it was handed, or into its spare room")
	}
	frames := append(make([]byte, 0, 100), got[3:]...)
	before := bytes.Clone(frames[:100])
	Get(frames)
	All(frames)
	if !bytes.Equal(frames[:100], before) {
		t.Error("P0.3: Get or All writes into what it was handed")
	}
}

// spoil writes into a list and all its spare room.
func spoil(b []byte) {
	b = b[:cap(b)]
	for i := range b {
		b[i] = 0xEE
	}
}

func TestPutAnswersNewMemory(t *testing.T) {
	for _, texts := range [][][]byte{nil, {nil}, {[]byte("abc")}, {run(7, 4097)}} {
		room := run(9, 60)
		spoil(Put(room[:3], texts...))
		if !bytes.Equal(room, run(9, 60)) {
			t.Errorf("P0.3: Put of %d texts shares memory with b", len(texts))
		}
	}
	text := []byte("abc")
	first := Put(nil, text)
	text[0] = 'z'
	if !bytes.Equal(first, slow(nil, []byte("abc"))) {
		t.Error("P0.3: Put keeps a text")
	}
	second := Put(first, []byte("d"))
	spoil(Put(first, []byte("e")))
	if !bytes.Equal(second, slow(nil, []byte("abc"), []byte("d"))) {
		t.Error("P0.3: two answers behind the same b share memory")
	}
}

func TestTextsAreCopies(t *testing.T) {
	want := slow(nil, []byte("ab"), nil, []byte("cd"))
	b := bytes.Clone(want)
	text, _, _ := Get(b)
	spoil(text)
	texts, _, _ := All(b)
	for i := range texts {
		before := bytes.Clone(join(texts[i+1:]...))
		spoil(texts[i])
		if !bytes.Equal(join(texts[i+1:]...), before) {
			t.Errorf("P0.3: text %d shares memory with one behind it", i)
		}
	}
	if !bytes.Equal(b, want) {
		t.Error("P3.1: what is told is not a copy")
	}
	text, _, _ = Get(b)
	texts, _, _ = All(b)
	spoil(b)
	if string(text) != "ab" || !sameTexts(texts, [][]byte{[]byte("ab"), nil, []byte("cd")}) {
		t.Error("P3.1: what was told changes with b")
	}
}

func TestSameArgumentsSameAnswers(t *testing.T) {
	r := rand.New(rand.NewSource(4))
	for range 50 {
		texts := anyTexts(r)
		b := Put(nil, texts...)
		if !bytes.Equal(b, Put([]byte{}, texts...)) {
			t.Fatal("P0.4: behind nil and behind an empty list Put answers different bytes")
		}
		one, n, e := All(b)
		two, m, f := All(bytes.Clone(b))
		if !sameTexts(one, two) || n != m || e != f {
			t.Fatal("P0.5: the same bytes, another answer")
		}
	}
}
