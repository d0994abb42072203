package mani

import (
	"bytes"
	"math"
	"math/rand"
	"reflect"
	"slices"
	"testing"

	"remembrancer/api"
)

// far10 is a number of more than 64 bits, most10 the greatest of 64.
func far10() []byte { return bytes.Repeat([]byte{255}, 10) }

func most10() []byte { return append(bytes.Repeat([]byte{255}, 9), 1) }

func TestGetOfNoBytes(t *testing.T) {
	checkNone(t, "nil", nil, api.ErrForm)
	checkNone(t, "no bytes", []byte{}, api.ErrForm)
	checkNone(t, "no bytes, with spare room", slowMani(good())[:0], api.ErrForm)
}

// wrongHeads are texts that are no head of one part.
func wrongHeads() [][]byte {
	right := slowHead(300, 300, []int{5, 60}, 1)
	out := [][]byte{
		{'m', 5, 5, 1, 0, 1}, {'B', 5, 5, 1, 0, 1}, {'S', 5, 5, 1, 0, 1}, {5, 5, 1, 0, 1}, {0, 'M', 5, 5, 1, 0, 1}, {'M', 'M', 5, 5, 1, 0, 1},
		{'M', 5, 5, 1, 0, 1, 0}, {'M', 5, 5, 1, 0, 1, 1}, {'M', 5, 5, 1, 0, 1, 128}, {'M', 5, 5, 1, 0, 0, 1}, {'M', 5, 5, 2, 0, 1}, {'M', 5, 5, 3, 0, 1},
		{'M', 5, 5, 0, 1}, {'M', 5, 5, 0, 0, 1}, {'M', 5, 5, 4, 0, 0, 0, 0, 1}, {'M', 5, 5, 1, 61, 1}, {'M', 5, 5, 1, 128, 1, 1}, {'M', 5, 5, 1, 0},
		{'M', 0, 0, 1, 0, 1}, {'M', 5, 6, 1, 0, 1}, {'M', 0, 5, 1, 0, 1}, {'M', 5, 1, 0, 1},
		{'M', 133, 0, 5, 1, 0, 1}, {'M', 5, 133, 0, 1, 0, 1}, {'M', 5, 5, 129, 0, 0, 1}, {'M', 5, 5, 1, 128, 0, 1}, {'M', 5, 5, 1, 0, 129, 0}, {'M', 5, 5, 1, 0, 128},
		{'M', 5, 5, 1, 0, 0}, {'M', 5, 5, 1, 0, 2}, {'M', 5, 5, 1, 0, 3}, {'M', 5, 5, 1, 0, 4}, {'M', 5, 5, 1, 0, 129, 2},
		slowHead(100000, 100000, []int{0}, 1), slowHead(1<<32+5, 1<<32+5, []int{0}, 1), slowHead(-5, -5, []int{0}, 1), slowHead(math.MinInt, math.MinInt, []int{0}, 1),
		slowHead(5, 1<<32+5, []int{0}, 1), slowHead(5, -5, []int{0}, 1), slowHead(5, 5, []int{1 << 32}, 1), slowHead(5, 5, []int{-1}, 1), slowHead(5, 5, []int{0}, -1),
		slowHead(5, 5, []int{0}, math.MinInt), slowHead(5, 5, []int{0}, 1<<32+1), slowHead(5, 5, make([]int, 4000), 1), slowPart(good().Parts[0], 2), bytes.Repeat([]byte{255}, 4096), make([]byte, 4096),
		append(slices.Clone(right), right...),
		slices.Concat([]byte{'M', 5, 5}, most10(), []byte{0, 1}),
		slices.Concat([]byte{'M', 5, 5}, most10()),
		slices.Concat([]byte{'M', 5, 5}, far10(), []byte{0, 1}),
		slices.Concat([]byte{'M'}, far10(), far10(), []byte{1, 0, 1}),
		slices.Concat([]byte{'M', 5, 5, 1}, far10(), []byte{1}),
		slices.Concat([]byte{'M', 5, 5, 1, 0}, far10()),
	}
	for n := range right {
		out = append(out, right[:n])
	}
	return out
}

func TestGetOfWrongHeads(t *testing.T) {
	part := slowPart(api.Part{Upto: 1}, 1)
	for _, head := range wrongHeads() {
		checkNone(t, "a wrong head", slowBytes(head, part, []byte("x")), api.ErrForm)
		checkNone(t, "a wrong head alone", slowBytes(head), api.ErrForm)
		checkNone(t, "a wrong head, behind it a right one", slowBytes(head, slowHead(5, 5, []int{0}, 1), part, []byte("x")), api.ErrForm)
	}
	for _, head := range [][]byte{{'M', 5, 5, 1, 0, 1}, slowHead(300, 300, []int{5, 60}, 1)} {
		if _, e := Get(slowBytes(head, part, []byte("x"))); e != api.OK {
			t.Errorf("P15.1: Get of a right head: %d", e)
		}
	}
}

// wrongParts are texts that are no part of one segment.
func wrongParts() [][]byte {
	right := slowPart(api.Part{Base: "bb", At: 200, Upto: 300}, 1)
	out := [][]byte{
		{0, 0, 1, 0}, {0, 0, 1, 2}, {0, 0, 1, 3}, {0, 0, 1, 129, 0}, {0, 0, 1, 129, 2}, {0, 0, 1, 1, 0}, {0, 0, 1, 1, 1}, {0, 0, 1, 1, 'x'}, {0, 0, 1, 1, 128}, {0, 0, 1},
		{0, 0, 0, 1}, {0, 1, 1, 1}, {0, 1, 2, 1}, {0, 0, 129, 0, 1}, {0, 128, 0, 1, 1}, {128, 0, 0, 1, 1}, {1, 'b', 0, 1, 1}, {1, 'b', 2, 1, 1}, {1, 'b', 2, 2, 1},
		{2, 'b', 1, 2, 1}, {1, 'b', 'b', 1, 2, 1}, {129, 0, 'b', 1, 2, 1}, {9, 'b', 1, 2, 1}, {40, 'b', 1, 2, 1}, {0, 'b', 1, 2, 1}, {'b', 1, 2, 1},
		slowPart(api.Part{Base: name(41), At: 1, Upto: 2}, 1), slowPart(api.Part{Base: name(300), At: 1, Upto: 2}, 1),
		slowPart(api.Part{Base: "b", At: 10000, Upto: 10001}, 1), slowPart(api.Part{Base: "b", At: 10001, Upto: 10002}, 1), slowPart(api.Part{Upto: 10001}, 1),
		slowPart(api.Part{Upto: 1 << 32}, 1), slowPart(api.Part{Upto: math.MinInt}, 1), slowPart(api.Part{Upto: -1}, 1), slowPart(api.Part{Base: "b", At: -1, Upto: 3}, 1), slowPart(api.Part{Base: "b", At: math.MinInt, Upto: 3}, 1),
		slowPart(api.Part{Upto: 1}, -1), slowPart(api.Part{Upto: 1}, math.MinInt), slowPart(api.Part{Upto: 1}, math.MaxInt), slowPart(api.Part{Upto: 1}, 1<<32+1),
		slowHead(5, 5, []int{0}, 1), make([]byte, 4096), bytes.Repeat([]byte{255}, 4096), append(slices.Clone(right), right...),
		slices.Concat(most10(), []byte{0, 1, 1}), slices.Concat(far10(), []byte{0, 1, 1}), slices.Concat([]byte{0}, far10(), []byte{1, 1}),
		slices.Concat([]byte{0, 0}, far10(), []byte{1}), slices.Concat([]byte{0, 0, 1}, far10()), slices.Concat([]byte{0, 0, 1}, most10()),
	}
	for n := range right {
		out = append(out, right[:n])
	}
	return out
}

// TestGetOfWrongParts: whichever of three parts it is.
func TestGetOfWrongParts(t *testing.T) {
	head, x := []byte{'M', 5, 5, 1, 0, 3}, []byte("x")
	right := slowPart(api.Part{Base: "b", At: 1, Upto: 2}, 1)
	for _, part := range wrongParts() {
		checkNone(t, "a wrong part alone", slowBytes([]byte{'M', 5, 5, 1, 0, 1}, part, x), api.ErrForm)
		checkNone(t, "a wrong part, first", slowBytes(head, part, x, right, x, right, x), api.ErrForm)
		checkNone(t, "a wrong part amidst", slowBytes(head, right, x, part, x, right, x), api.ErrForm)
		checkNone(t, "a wrong part, last", slowBytes(head, right, x, right, x, part, x), api.ErrForm)
	}
	if _, e := Get(slowBytes(head, right, x, right, x, right, x)); e != api.OK {
		t.Errorf("P15.1: Get of right parts: %d", e)
	}
}

// TestGetOfWrongSegs: one that may not be, whichever it is.
func TestGetOfWrongSegs(t *testing.T) {
	for _, long := range []int{0, 41, 42, 128, 4096} {
		for i := range 3 {
			texts := [][]byte{{'M', 5, 5, 1, 0, 1}, slowPart(api.Part{Upto: 1}, 3), []byte("x"), []byte("y"), []byte("z")}
			texts[2+i] = []byte(name(long))
			checkNone(t, "a wrong Seg", slowBytes(texts...), api.ErrForm)
		}
	}
}

// TestGetOfWrongCounts: another number of parts, of segments is told of than there are.
func TestGetOfWrongCounts(t *testing.T) {
	for there := range 6 {
		for told := range 6 {
			m := api.Manifest{N: 5, Txn: 5, Offsets: []int{0}, Parts: slices.Repeat([]api.Part{{Upto: 1, Segs: []string{"x"}}}, there)}
			texts := slowTexts(m)
			texts[0] = slowHead(5, 5, m.Offsets, told)
			checkCount(t, "Parts", slowBytes(texts...), m, there == told && 1 <= there && there <= 3)
			m.Parts = []api.Part{{Upto: 1, Segs: names(there)}}
			texts = slowTexts(m)
			texts[1] = slowPart(m.Parts[0], told)
			checkCount(t, "Segs", slowBytes(texts...), m, there == told)
			m.Offsets, m.Parts = make([]int, there), []api.Part{{}}
			head := slices.Concat([]byte{'M', 5, 5, byte(told)}, make([]byte, there), []byte{1})
			checkCount(t, "Offsets", slowBytes(head, []byte{0, 0, 0, 0}), m, there == told && 1 <= there && there <= 3)
		}
	}
}

func checkCount(t *testing.T, what string, b []byte, m api.Manifest, right bool) {
	t.Helper()
	if right {
		checkGet(t, "as many "+what+" as told", b, m)
		return
	}
	checkNone(t, "another number of "+what, b, api.ErrForm)
}

// TestGetOfFramesThatCameOrWent: one too few, one too many, wherever it is.
func TestGetOfFramesThatCameOrWent(t *testing.T) {
	texts := slowTexts(good())
	for i := range texts {
		checkNone(t, "a frame too few", slowBytes(slices.Concat(texts[:i], texts[i+1:])...), api.ErrForm)
	}
	for i := range len(texts) + 1 {
		for _, more := range [][]byte{{}, {'M'}, []byte("x"), []byte("w"), texts[0], texts[1], {0, 0, 0, 0}, []byte(name(41))} {
			b := slowBytes(slices.Insert(slices.Clone(texts), i, more)...)
			checkNone(t, "a frame too many", b, api.ErrForm)
		}
	}
	whole := slowMani(good())
	checkNone(t, "two manifests", append(slices.Clone(whole), whole...), api.ErrForm)
}

// TestGetOfWrongFrames: what frame says of them counts ahead of all that stands in the frames before.
func TestGetOfWrongFrames(t *testing.T) {
	for _, c := range []struct {
		name string
		b    []byte
		e    api.Errno
	}{
		{"a length of two bytes for one", []byte{128, 0, 1, 0, 0, 0}, api.ErrForm},
		{"a length of more than 64 bits", far10(), api.ErrForm},
		{"a length that is cut off", []byte{128}, api.ErrTorn},
		{"a length of 4,097", slowBytes(make([]byte, 4097)), api.ErrLarge},
		{"a huge length", most10(), api.ErrLarge},
		{"a length of 4,096, torn", uvar(4096), api.ErrTorn},
		{"another sum", []byte{0, 0, 0, 0, 0}, api.ErrSum},
		{"another sum, of a part", []byte{4, 1, 2, 3, 4, 0, 0, 0, 0}, api.ErrSum},
	} {
		for _, ahead := range [][]byte{
			nil,
			slowMani(good()),
			slowMani(least()),
			slowBytes(slowTexts(good())[:4]...),
			slowBytes(nil),
			slowBytes([]byte{'m', 5, 5, 1, 0, 1}),
			slowBytes([]byte{'M', 5, 6, 1, 0, 1}),
			slowBytes([]byte{'M', 5, 5, 1, 0, 1}, []byte{0, 0, 1, 0, 0}),
		} {
			checkNone(t, c.name, slices.Concat(ahead, c.b), c.e)
			if c.e != api.ErrTorn {
				checkNone(t, c.name+", a right one behind it", slices.Concat(ahead, c.b, slowMani(least())), c.e)
			}
		}
	}
}

// TestGetOfCutManifests: at a frame's end too few are left, elsewhere a frame is torn.
func TestGetOfCutManifests(t *testing.T) {
	texts := slowTexts(good())
	whole := slowBytes(texts...)
	for n := range whole {
		want := api.ErrTorn
		for k := range texts {
			if n == len(slowBytes(texts[:k]...)) {
				want = api.ErrForm
			}
		}
		checkNone(t, "a cut manifest", whole[:n], want)
	}
	checkGet(t, "a whole one", whole, good())
}

// TestGetOfTurnedBytes: each byte turned to each other one. In a sum or a text it is the sum that shows it.
func TestGetOfTurnedBytes(t *testing.T) {
	whole := slowMani(good())
	lengths := map[int]int{}
	for i := range slowTexts(good()) {
		lengths[len(slowBytes(slowTexts(good())[:i]...))] = i
	}
	for i := range whole {
		for turn := 1; turn < 256; turn++ {
			b := bytes.Clone(whole)
			b[i] ^= byte(turn)
			_, want := slowGet(b)
			if _, ok := lengths[i]; !ok && want != api.ErrSum || want == api.OK {
				t.Fatalf("byte %d turned by %d: %d", i, turn, want)
			}
			checkNone(t, "a byte turned", b, want)
		}
	}
}

// TestGetOfTurnedTexts: turned ahead of the frames being made, so that their sums are right.
func TestGetOfTurnedTexts(t *testing.T) {
	r := rand.New(rand.NewSource(17))
	read := 0
	for range 20000 {
		texts := slowTexts(anyManifest(r))
		for range r.Intn(3) {
			turn(r, texts)
		}
		if checkSlow(t, "turned texts", slowBytes(texts...)) {
			read++
		}
	}
	if read < 7000 || read > 16000 {
		t.Errorf("%d were read: too few or too many to tell anything", read)
	}
}

// checkSlow holds Get against the slow way, and tells whether there was a manifest.
func checkSlow(t *testing.T, what string, b []byte) bool {
	t.Helper()
	want, e := slowGet(b)
	if e != api.OK {
		checkNone(t, what, b, e)
		return false
	}
	if got, gotE := Get(b); gotE != api.OK || !reflect.DeepEqual(got, want) {
		t.Errorf("P15.1: Get, %s: %s, %d, not %s", what, brief(got), gotE, brief(want))
	}
	return true
}

// turn does one thing to one of the texts: a byte is another one, one goes, one comes, or the rest goes.
func turn(r *rand.Rand, texts [][]byte) {
	k := r.Intn(len(texts))
	text := bytes.Clone(texts[k])
	if len(text) == 0 {
		return
	}
	i := r.Intn(len(text))
	switch r.Intn(5) {
	case 0:
		text[i] = byte(r.Intn(256))
	case 1:
		text[i] ^= 1
	case 2:
		text = slices.Delete(text, i, i+1)
	case 3:
		text = slices.Insert(text, i, byte(r.Intn(9)))
	case 4:
		text = text[:i]
	}
	texts[k] = text
}

// TestGetOfAnyBytes: whatever they are, the slow way says the same.
func TestGetOfAnyBytes(t *testing.T) {
	r := rand.New(rand.NewSource(18))
	for range 20000 {
		b := make([]byte, r.Intn(20))
		for i := range b {
			b[i] = byte(r.Intn(1 << (1 + r.Intn(8))))
		}
		checkSlow(t, "any bytes", b)
		checkSlow(t, "a frame of any bytes", slowBytes(b))
		checkSlow(t, "a head of any bytes", slowBytes(append([]byte("M"), b...), []byte{0, 0, 1, 1}, []byte("x")))
		checkSlow(t, "a part of any bytes", slowBytes([]byte("M\x01\x01\x01\x00\x01"), b, []byte("x")))
	}
}

// TestGetEnds: however much is told of, no more is taken than there is.
func TestGetEnds(t *testing.T) {
	huge := slices.Concat([]byte{0, 0, 1}, most10())
	texts := [][]byte{slices.Concat([]byte{'M', 5, 5, 1, 0}, most10())}
	for range 20000 {
		texts = append(texts, []byte{0, 0, 0, 0})
	}
	checkNone(t, "many parts", slowBytes(texts...), api.ErrForm)
	checkNone(t, "many segments", slowBytes(append([][]byte{{'M', 5, 5, 1, 0, 1}, huge}, texts...)...), api.ErrForm)
	checkNone(t, "many offsets", slowBytes(slices.Concat([]byte{'M', 5, 5}, most10(), make([]byte, 4000))), api.ErrForm)
	told := slowPart(api.Part{Upto: 1}, len(texts))
	checkNone(t, "as many segments as told", slowBytes(append([][]byte{{'M', 5, 5, 1, 0, 1}, told}, texts...)...), api.ErrForm)
}
