package reader

import (
	"bytes"
	"encoding/binary"
	"math"
	"strings"
	"testing"
)

// row is one thing of each kind, one behind the other.
func row() []byte {
	out := binary.AppendUvarint([]byte("M"), math.MaxUint64)
	out = binary.AppendVarint(out, math.MinInt64)
	out = append(binary.AppendUvarint(out, 3), "abc"...)
	return binary.AppendUvarint(out, 300)
}

// takeRow takes what row has.
func takeRow(r *Reader) (n uint64, i int64, s string, last uint64) {
	r.Mark('M')
	n = r.Number()
	i = r.Int()
	s = r.Text(3)
	last = r.Number()
	return n, i, s, last
}

// checkBad: from now on the reader answers zero values, whatever it is asked.
func checkBad(t *testing.T, what string, r *Reader) {
	t.Helper()
	for range 2 {
		if r.Good() || r.Done() {
			t.Errorf("%s: the reader is right", what)
		}
		r.Mark(1)
		if n, i, s := r.Number(), r.Int(), r.Text(100); n != 0 || i != 0 || s != "" {
			t.Errorf("%s: %d, %d, %q of a reader that is not right", what, n, i, s)
		}
	}
}

func TestRow(t *testing.T) {
	r := New(row())
	if !r.Good() || r.Done() {
		t.Error("a reader that begins")
	}
	n, i, s, last := takeRow(r)
	if n != math.MaxUint64 || i != math.MinInt64 || s != "abc" || last != 300 {
		t.Errorf("%d, %d, %q, %d", n, i, s, last)
	}
	if !r.Good() || !r.Done() {
		t.Error("a reader at its end")
	}
	r.Number()
	checkBad(t, "behind the end", r)
}

func TestTornRow(t *testing.T) {
	for n := range row() {
		r := New(row()[:n])
		takeRow(r)
		checkBad(t, "a torn row", r)
	}
}

func TestLeftOver(t *testing.T) {
	r := New(append(row(), 0))
	takeRow(r)
	if !r.Good() || r.Done() {
		t.Error("a byte is left over: Good, and not Done")
	}
}

func TestOfNothing(t *testing.T) {
	for _, text := range [][]byte{nil, {}} {
		if r := New(text); !r.Good() || !r.Done() {
			t.Error("of nothing nothing is left over")
		}
		for what, ask := range asks() {
			r := New(text)
			ask(r)
			checkBad(t, what, r)
		}
	}
}

func asks() map[string]func(r *Reader) {
	return map[string]func(r *Reader){
		"Mark":   func(r *Reader) { r.Mark('M') },
		"Number": func(r *Reader) { r.Number() },
		"Int":    func(r *Reader) { r.Int() },
		"Text":   func(r *Reader) { r.Text(40) },
		"Fail":   func(r *Reader) { r.Fail() },
	}
}

func TestNilReader(t *testing.T) {
	checkBad(t, "nil", nil)
	for what, ask := range asks() {
		var r *Reader
		ask(r)
		checkBad(t, what, r)
	}
}

func TestWrongThings(t *testing.T) {
	for _, text := range [][]byte{{'m', 1}, {1, 'M'}, {0}} {
		r := New(text)
		r.Mark('M')
		checkBad(t, "another mark", r)
	}
	for _, text := range [][]byte{{128}, {128, 0}, {129, 0, 1}, bytes.Repeat([]byte{255}, 10), bytes.Repeat([]byte{255}, 20)} {
		for what, ask := range asks() {
			if what == "Mark" {
				continue
			}
			r := New(text)
			ask(r)
			checkBad(t, what+" of no number", r)
		}
	}
	for _, most := range []int{2, 1, 0, -1, math.MinInt} {
		r := New([]byte("\x03abc"))
		r.Text(most)
		checkBad(t, "a text that is too long", r)
	}
	for _, text := range []string{"\x04abc", "\x28", "\xff\xff\xff\xff\xff\xff\xff\xff\xff\x01abc"} {
		r := New([]byte(text))
		r.Text(math.MaxInt)
		checkBad(t, "a torn text", r)
	}
}

func TestTexts(t *testing.T) {
	for _, n := range []int{0, 1, 40, 127, 128, 3000} {
		s := strings.Repeat("x", n)
		r := New(append(binary.AppendUvarint(nil, uint64(n)), s...))
		if got := r.Text(n); got != s || !r.Done() {
			t.Errorf("a text of %d bytes: %d bytes", n, len(got))
		}
	}
}

func TestFail(t *testing.T) {
	r := New(row())
	r.Mark('M')
	r.Fail()
	checkBad(t, "Fail", r)
}

// TestKeepsNothing: the reader has the text as it was, and leaves it so.
func TestKeepsNothing(t *testing.T) {
	text := row()
	r := New(text)
	clear(text)
	if n, _, s, _ := takeRow(r); n != math.MaxUint64 || s != "abc" || !r.Done() {
		t.Error("P0.3: the reader keeps what it was handed")
	}
	text = row()
	takeRow(New(text))
	if !bytes.Equal(text, row()) {
		t.Error("P0.3: the reader changed what it was handed")
	}
}
