package base

import (
	"bytes"
	"math"
	"math/rand"
	"reflect"
	"slices"
	"testing"

	"remembrancer/api"
)

// one is a cell with all three, two and three are keys behind its own.
func one() api.Cell {
	return api.Cell{Key: by(1, 0, 5), Has: true, Value: -2, List: []int64{1, 64}, Dict: fields(3, 1, 7, -300)}
}

func two() api.Cell { return api.Cell{Key: by(1, 1, 1), List: []int64{9}} }

func three() api.Cell { return api.Cell{Key: by(2, 0, 2), Has: true} }

func TestGetOfNoBytes(t *testing.T) {
	checkNone(t, "nil", nil, api.ErrForm)
	checkNone(t, "no bytes", []byte{}, api.ErrForm)
	checkNone(t, "no bytes, with spare room", slowBase(1, one())[:0], api.ErrForm)
}

func TestGetOfWrongHeads(t *testing.T) {
	wide := func(n ...byte) []byte { return append([]byte{'B'}, n...) }
	for _, c := range []struct {
		name string
		head []byte
	}{
		{"no bytes", nil},
		{"nothing behind B", wide()},
		{"one number", wide(1)},
		{"three numbers", wide(1, 0, 0)},
		{"a byte too many", wide(1, 0, 128)},
		{"a segment's letter", []byte{'S', 1, 0}},
		{"a manifest's letter", []byte{'M', 1, 0}},
		{"a small letter", []byte{'b', 1, 0}},
		{"no letter", []byte{1, 0}},
		{"the letter behind", []byte{1, 0, 'B'}},
		{"at of 10,001", slowHead(10001, 0)},
		{"at of 10,002", slowHead(10002, 0)},
		{"at of 2^32", slowHead(1<<32, 0)},
		{"at of the greatest int", slowHead(math.MaxInt, 0)},
		{"at of 2^63", slowHead(math.MinInt, 0)},
		{"at of the greatest number", slowHead(-1, 0)},
		{"at of two bytes for one", wide(129, 0, 0)},
		{"at of two bytes for 0", wide(128, 0, 0)},
		{"at of more than 64 bits", append(wide(bytes.Repeat([]byte{255}, 10)...), 0)},
		{"at that ends too early", wide(128)},
		{"a cell too many", slowHead(1, 1)},
		{"two cells too many", slowHead(1, 2)},
		{"2^32 cells", slowHead(1, 1<<32)},
		{"2^63 cells", slowHead(1, math.MinInt)},
		{"-1 cells", slowHead(1, -1)},
		{"cells of two bytes for 0", wide(1, 128, 0)},
		{"cells that end too early", wide(1, 128)},
		{"a cell", slowCell(one())},
		{"a head of 4,096 bytes", append(wide(1, 0), make([]byte, 4093)...)},
	} {
		checkNone(t, c.name, slowFrame(c.head), api.ErrForm)
		checkNone(t, c.name+", behind it a head", slowFrames(c.head, slowHead(1, 0)), api.ErrForm)
	}
	checkGet(t, "a right head", slowFrame(wide(1, 0)), 1)
}

// TestGetOfWrongCounts: the head tells of other cells than there are.
func TestGetOfWrongCounts(t *testing.T) {
	cells := [][]byte{slowCell(one()), slowCell(two()), slowCell(three())}
	for there := range 4 {
		for told := range 6 {
			b := slowFrames(append([][]byte{slowHead(8, told)}, cells[:there]...)...)
			if there == told {
				checkGet(t, "as many as told", b, 8, []api.Cell{one(), two(), three()}[:there]...)
				continue
			}
			checkNone(t, "another number of cells", b, api.ErrForm)
		}
	}
	checkNone(t, "256 cells more", slowFrames(slowHead(8, 257), cells[0]), api.ErrForm)
	checkNone(t, "2^32 cells more", slowFrames(slowHead(8, 1<<32+1), cells[0]), api.ErrForm)
	checkNone(t, "a head behind", slowFrames(slowHead(8, 1), slowHead(8, 1)), api.ErrForm)
	checkNone(t, "two snapshots", append(slowBase(8, one()), slowBase(8, two())...), api.ErrForm)
}

// wrongCells are texts of frames that are no cell.
func wrongCells() [][]byte {
	right := slowCell(one())
	far := bytes.Repeat([]byte{255}, 10)
	many := slices.Concat(bytes.Repeat([]byte{255}, 9), []byte{1})
	out := [][]byte{
		{1, 0, 5},
		{1, 0, 5, 0},
		{1, 0, 5, 0, 0},
		{1, 0, 5, 0, 0, 0},
		{1, 0, 5, 1, 3},
		{1, 0, 5, 1, 3, 0},
		{1, 0, 5, 1, 3, 0, 0, 0},
		{1, 0, 5, 1, 3, 0, 0, 128},
		{1, 0, 5, 2, 3, 0, 0},
		{1, 0, 5, 3, 3, 0, 0},
		{1, 0, 5, 127, 3, 0, 0},
		{1, 0, 5, 129, 0, 3, 0, 0},
		{1, 0, 5, 128, 0, 1, 9, 0},
		{1, 0, 5, 129, 2, 3, 0, 0},
		{1, 0, 5, 0, 3, 0, 0},
		{1, 0, 5, 1, 131, 0, 0, 0},
		{1, 0, 5, 0, 2, 9, 0},
		{1, 0, 5, 0, 1, 9, 9, 0},
		{1, 0, 5, 0, 0, 1, 3},
		{1, 0, 5, 0, 0, 2, 3, 1},
		{1, 0, 5, 0, 0, 2, 3, 1, 4},
		{1, 0, 5, 0, 0, 1, 3, 1, 4, 1},
		{1, 0, 5, 0, 0, 2, 3, 1, 3, 1},
		{1, 0, 5, 0, 0, 2, 4, 1, 3, 1},
		{1, 0, 5, 0, 0, 1, 8, 1},
		{1, 0, 5, 0, 0, 1, 135, 0, 1},
		{4, 0, 5, 1, 3, 0, 0},
		{1, 2, 5, 1, 3, 0, 0},
		{1, 0, 24, 1, 3, 0, 0},
		{129, 0, 0, 5, 1, 3, 0, 0},
		slices.Concat(far, []byte{0, 5, 1, 3, 0, 0}),
		slices.Concat(many, []byte{0, 5, 1, 3, 0, 0}),
		slices.Concat([]byte{1}, many, []byte{5, 1, 3, 0, 0}),
		slices.Concat([]byte{1, 0}, many, []byte{1, 3, 0, 0}),
		slices.Concat([]byte{1, 0, 5}, many, []byte{3, 0, 0}),
		slices.Concat([]byte{1, 0, 5, 1}, far, []byte{0, 0}),
		slices.Concat([]byte{1, 0, 5, 0}, many, []byte{9, 0}),
		slices.Concat([]byte{1, 0, 5, 0}, far, []byte{9, 0}),
		slices.Concat([]byte{1, 0, 5, 0, 0}, many, []byte{3, 1}),
		slices.Concat([]byte{1, 0, 5, 0, 0, 1}, many, []byte{1}),
		slices.Concat([]byte{1, 0, 5, 0, 0, 1}, uvar(1<<63), []byte{1}),
		slices.Concat([]byte{1, 0, 5, 0, 0, 1}, uvar(1<<32), []byte{1}),
		slices.Concat([]byte{1, 0, 5, 0, 0, 1, 3}, far),
		slices.Concat([]byte{1, 0, 5, 0, 101}, make([]byte, 101), []byte{0}),
		slices.Concat([]byte{1, 0, 5, 1, 3}, uvar(1000), make([]byte, 1000), []byte{0}),
		slices.Concat([]byte{1, 0, 5, 1, 3}, uvar(4000), make([]byte, 4000), []byte{0}),
		slices.Concat([]byte{1, 0, 5, 0, 0}, uvar(9), bytes.Repeat([]byte{3, 1}, 9)),
		slices.Concat([]byte{1, 0, 5, 0, 0}, uvar(2000), bytes.Repeat([]byte{3, 1}, 2000)),
		slices.Concat([]byte{1, 0, 5, 0, 0, 9}, []byte{0, 1, 1, 1, 2, 1, 3, 1, 4, 1, 5, 1, 6, 1, 7, 1, 8, 1}),
		make([]byte, 4096),
		bytes.Repeat([]byte{255}, 4096),
		append(slowCell(one()), 0),
		append(slowCell(one()), slowCell(two())...),
	}
	for n := range right {
		out = append(out, right[:n])
	}
	return out
}

// TestGetOfWrongCells: whichever of three cells it is.
func TestGetOfWrongCells(t *testing.T) {
	zero, last := slowCell(api.Cell{Key: by(0, 0, 0), Has: true}), slowCell(three())
	for _, text := range wrongCells() {
		checkNone(t, "a wrong cell alone", slowFrames(slowHead(1, 1), text), api.ErrForm)
		checkNone(t, "a wrong cell, first", slowFrames(slowHead(1, 2), text, last), api.ErrForm)
		checkNone(t, "a wrong cell, last", slowFrames(slowHead(1, 2), zero, text), api.ErrForm)
		checkNone(t, "a wrong cell amidst", slowFrames(slowHead(1, 3), zero, text, last), api.ErrForm)
	}
	checkGet(t, "two right ones", slowFrames(slowHead(1, 2), zero, last), 1, api.Cell{Key: by(0, 0, 0), Has: true}, three())
}

func TestGetOfKeysThatDoNotRise(t *testing.T) {
	rising := []api.Key{by(0, 0, 0), by(0, 0, 23), by(0, 1, 0), by(0, 1, 22), by(1, 0, 0), by(1, 0, 1), by(3, 0, 0), by(3, 1, 23)}
	for i, a := range rising {
		for k, b := range rising {
			x, y := api.Cell{Key: a, Has: true, Value: 1}, api.Cell{Key: b, List: []int64{2}}
			if i < k {
				checkGet(t, "rising keys", slowBase(1, x, y), 1, x, y)
				continue
			}
			checkNone(t, "keys that do not rise", slowBase(1, x, y), api.ErrForm)
		}
	}
	checkNone(t, "the third as the first", slowBase(1, one(), two(), one()), api.ErrForm)
}

func TestGetOfFieldsThatDoNotRise(t *testing.T) {
	k := by(2, 1, 2)
	for f := range int64(10) {
		for g := range int64(10) {
			c := api.Cell{Key: k, Dict: fields(f, 1, g, 2)}
			if f < g && g < 8 {
				checkGet(t, "rising fields", slowBase(1, c), 1, c)
				continue
			}
			checkNone(t, "fields that do not rise", slowBase(1, c), api.ErrForm)
		}
	}
}

// TestGetOfWrongFrames: what frame says of them counts ahead of all that stands in the frames before.
func TestGetOfWrongFrames(t *testing.T) {
	for _, c := range []struct {
		name string
		b    []byte
		e    api.Errno
	}{
		{"a length of two bytes for one", []byte{128, 0, 1, 0, 0, 0}, api.ErrForm},
		{"a length of more than 64 bits", bytes.Repeat([]byte{255}, 10), api.ErrForm},
		{"a length that is cut off", []byte{128}, api.ErrTorn},
		{"a length of 4,097", slowFrame(make([]byte, 4097)), api.ErrLarge},
		{"a huge length", uvar(math.MaxUint64), api.ErrLarge},
		{"a length of 4,096, torn", uvar(4096), api.ErrTorn},
		{"another sum", []byte{0, 0, 0, 0, 0}, api.ErrSum},
		{"another sum, of a cell", append([]byte{7, 1, 2, 3, 4}, slowCell(three())...), api.ErrSum},
	} {
		for _, ahead := range [][]byte{
			nil,
			slowBase(1),
			slowBase(1, one(), two()),
			slowFrame([]byte{'b', 1, 0}),
			slowFrame(slowHead(10001, 0)),
			slowFrame(nil),
			slowFrames(slowHead(1, 1), []byte{1, 0, 5, 2, 3, 0, 0}),
			slowFrames(slowHead(1, 5), slowCell(one())),
			slowBase(1, two(), one()),
		} {
			checkNone(t, c.name, slices.Concat(ahead, c.b), c.e)
			if c.e != api.ErrTorn {
				checkNone(t, c.name+", a cell behind it", slices.Concat(ahead, c.b, slowFrame(slowCell(one()))), c.e)
			}
		}
	}
}

// TestGetOfCutSnapshots: at a frame's end too few cells are left, elsewhere a frame is torn.
func TestGetOfCutSnapshots(t *testing.T) {
	texts := slowTexts(300, one(), two(), three())
	whole := slowFrames(texts...)
	for n := range whole {
		want := api.ErrTorn
		for k := range texts {
			if n == len(slowFrames(texts[:k]...)) {
				want = api.ErrForm
			}
		}
		checkNone(t, "a cut snapshot", whole[:n], want)
	}
	checkGet(t, "a whole one", whole, 300, one(), two(), three())
}

// TestGetOfTurnedBytes: each byte turned to each other one.
func TestGetOfTurnedBytes(t *testing.T) {
	whole := slowBase(300, one(), two(), three())
	for i := range whole {
		for turn := 1; turn < 256; turn++ {
			b := bytes.Clone(whole)
			b[i] ^= byte(turn)
			_, e := slowAll(b)
			if e == api.OK {
				t.Fatalf("byte %d turned by %d is not seen", i, turn)
			}
			checkNone(t, "a byte turned", b, e)
		}
	}
}

// TestGetOfTurnedTexts: turned ahead of the frames being made, so that their sums are right.
func TestGetOfTurnedTexts(t *testing.T) {
	r := rand.New(rand.NewSource(15))
	read := 0
	for range 12000 {
		cs := someCells(r)
		texts := slowTexts(r.Intn(200), cs...)
		for range r.Intn(3) {
			turn(r, texts)
		}
		b := slowFrames(texts...)
		at, want, e := slowGet(b)
		if e != api.OK {
			checkNone(t, "turned texts", b, e)
			continue
		}
		read++
		gotAt, s, gotE := Get(b)
		if gotAt != at || gotE != api.OK || !reflect.DeepEqual(s.Cells(), want) {
			t.Fatalf("P14.1: Get of turned texts: %d, %d, not %d", gotAt, gotE, at)
		}
	}
	if read < 4000 || read > 10000 {
		t.Errorf("%d were read: too few or too many to tell anything", read)
	}
}

// turn does one thing to one of the texts: a byte is another one, one goes, one comes, or the rest goes.
func turn(r *rand.Rand, texts [][]byte) {
	k := r.Intn(len(texts))
	text := bytes.Clone(texts[k])
	if len(text) == 0 {
		return
	}
	i := r.Intn(len(text))
	switch r.Intn(5) {
	case 0:
		text[i] = byte(r.Intn(256))
	case 1:
		text[i] ^= 1
	case 2:
		text = slices.Delete(text, i, i+1)
	case 3:
		text = slices.Insert(text, i, byte(r.Intn(9)))
	case 4:
		text = text[:i]
	}
	texts[k] = text
}

// TestGetOfAnyBytes: whatever they are, the slow way says the same.
func TestGetOfAnyBytes(t *testing.T) {
	r := rand.New(rand.NewSource(16))
	for range 20000 {
		b := make([]byte, r.Intn(40))
		for i := range b {
			b[i] = byte(r.Intn(1 << (1 + r.Intn(8))))
		}
		_, _, e := slowGet(b)
		if e != api.OK {
			checkNone(t, "any bytes", b, e)
		}
		text := slowFrames([]byte("B\x01\x01"), b)
		at, cs, e := slowGet(text)
		if e != api.OK {
			checkNone(t, "a cell of any bytes", text, e)
			continue
		}
		checkGet(t, "a cell of any bytes", text, at, cs...)
	}
}

// TestGetEnds: however much is told of, no more is taken than there is.
func TestGetEnds(t *testing.T) {
	var frames [][]byte
	for range 20000 {
		frames = append(frames, []byte{1, 0, 5, 1, 3, 0, 0})
	}
	checkNone(t, "many cells of one key", slowFrames(append([][]byte{slowHead(1, 20000)}, frames...)...), api.ErrForm)
	for range 3000 {
		frames = append(frames, slices.Concat([]byte{1, 0, 5, 0}, uvar(math.MaxUint64), make([]byte, 4000)))
	}
	checkNone(t, "huge lists", slowFrames(append([][]byte{slowHead(1, 23000)}, frames...)...), api.ErrForm)
}
