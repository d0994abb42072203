package chlog

import (
	"maps"
	"math"
	"slices"
	"strings"
	"testing"

	"remembrancer/api"
	"remembrancer/disk"
)

// far are numbers that no change has.
func far() []int {
	return []int{math.MinInt, math.MinInt + 1, -1 << 32, -10001, -2, -1, 0, 10001, 10002, 65536, 1 << 32, 1<<32 + 1, math.MaxInt - 1, math.MaxInt}
}

// wrongSizes are those that no log has.
func wrongSizes() []int {
	return []int{math.MinInt, -4096, -32, -1, 0, 1, 31, 4097, 4098, 65536, 1<<32 + 64, math.MaxInt}
}

func key() api.Key { return api.Key{Group: 1, Ns: 1, Id: 5} }

// set is a change that takes 10 bytes with its frame, if v is small.
func set(v int) api.Mut { return api.Mut{Kind: api.MSet, Key: key(), V: int64(v)} }

// del is one that takes 9.
func del() api.Mut { return api.Mut{Kind: api.MDel, Key: key()} }

// sets are n changes of 10 bytes, each another one than those beside it.
func sets(n int) []api.Mut {
	var out []api.Mut
	for i := range n {
		out = append(out, set(i%64))
	}
	return out
}

// mixed are n changes of all kinds, of 9 to 19 bytes.
func mixed(n int) []api.Mut {
	row := []api.Mut{
		set(0), del(), {Kind: api.MPush, Key: key(), V: math.MinInt64}, {Kind: api.MClear, Key: api.Key{}},
		{Kind: api.MPut, Key: api.Key{Group: 3, Id: 23}, F: 7, V: math.MaxInt64}, {Kind: api.MCut, Key: key(), F: 0}, set(-65),
	}
	return slices.Repeat(row, n/len(row)+1)[:n]
}

// wrongOnes are changes that may not be, each for one reason.
func wrongOnes() []api.Mut {
	return []api.Mut{
		{}, {Kind: 7, Key: key()}, {Kind: -1, Key: key()}, {Kind: 257, Key: key()},
		{Kind: api.MSet, Key: api.Key{Group: 4}}, {Kind: api.MSet, Key: api.Key{Ns: -1}}, {Kind: api.MSet, Key: api.Key{Id: 24}},
		{Kind: api.MSet, F: 1}, {Kind: api.MPut, F: 8}, {Kind: api.MDel, V: 1}, {Kind: api.MCut, V: -1},
	}
}

// others are files that are not the log's: their names begin otherwise.
func others() map[string]string {
	return map[string]string{"a": "x", "S00001": string(slowSeg(1, del())), "r": "", "t0.0001": "y", "\xffs": "z", " s00001": "s"}
}

// diskOf is a disk with these files, all of it synced.
func diskOf(t *testing.T, all ...map[string]string) *disk.Disk {
	t.Helper()
	d := disk.New()
	for _, files := range all {
		for name, b := range files {
			if e := d.Append(name, []byte(b)); e != api.OK {
				t.Fatalf("the test's own file %q: %d", name, e)
			}
		}
	}
	d.Sync()
	return d
}

func filesOf(d *disk.Disk) map[string]string {
	out := map[string]string{}
	for _, name := range d.List() {
		b, _ := d.Read(name)
		out[name] = string(b)
	}
	return out
}

// checkLog holds all that a log tells against the slow one, and the disk's files against the log's and others.
func checkLog(t *testing.T, at string, l *Log, d *disk.Disk, s *slow, others map[string]string) {
	t.Helper()
	if l == nil {
		t.Fatalf("P12: %s: there is no log", at)
	}
	if got := []int{l.First(), l.Next()}; !slices.Equal(got, []int{s.first(), s.next}) {
		t.Fatalf("P12: %s: First and Next %d, not %d, %d", at, got, s.first(), s.next)
	}
	if got := l.Spans(); !slices.Equal(got, s.spans()) {
		t.Fatalf("P12: %s: Spans %v, not %v", at, got, s.spans())
	}
	checkRead(t, at, l, s, s.first(), s.next-1)
	want := maps.Clone(others)
	if want == nil {
		want = map[string]string{}
	}
	maps.Copy(want, s.files())
	if got := filesOf(d); !maps.Equal(got, want) {
		t.Fatalf("P12: %s: the disk has %.300q, not %.300q", at, got, want)
	}
}

func checkRead(t *testing.T, at string, l *Log, s *slow, from, upto int) {
	t.Helper()
	want, wantE := s.read(from, upto)
	got, e := l.Read(from, upto)
	if e != wantE || !slices.Equal(got, want) {
		t.Errorf("P12.1: %s: Read of %d to %d: %v, %d, not %v, %d", at, from, upto, got, e, want, wantE)
	}
	if e != api.OK && got != nil {
		t.Errorf("P0.2: %s: Read of %d to %d: beside an error the list is not nil", at, from, upto)
	}
}

// both is a log on a disk of its own, beside the slow one.
type both struct {
	t *testing.T
	l *Log
	d *disk.Disk
	s *slow
}

func newBoth(t *testing.T, size, next int) *both {
	t.Helper()
	d := diskOf(t)
	b := &both{t, New(d, size, next), d, newSlow(size, next)}
	b.check("New")
	return b
}

func (b *both) check(at string) {
	b.t.Helper()
	checkLog(b.t, at, b.l, b.d, b.s, nil)
}

func (b *both) append(ms ...api.Mut) *both {
	b.t.Helper()
	if got, want := b.l.Append(ms...), b.s.append(ms...); got != want {
		b.t.Errorf("P12.1: Append of %d changes at %d: %d, not %d", len(ms), b.s.next, got, want)
	}
	b.check("Append")
	return b
}

func (b *both) close() *both {
	b.t.Helper()
	b.l.Close()
	b.s.close()
	b.check("Close")
	return b
}

func (b *both) cut(upto int) *both {
	b.t.Helper()
	if got, want := b.l.Cut(upto), b.s.cut(upto); got != want {
		b.t.Errorf("P12.1: Cut to %d: %d, not %d", upto, got, want)
	}
	b.check("Cut")
	return b
}

func (b *both) trim(upto int) *both {
	b.t.Helper()
	if got, want := b.l.Trim(upto), b.s.trim(upto); got != want {
		b.t.Errorf("P12.1: Trim to %d: %d, not %d", upto, got, want)
	}
	b.check("Trim")
	return b
}

// open forgets the log, and finds it again on its disk.
func (b *both) open(size int) *both {
	b.t.Helper()
	b.s = slowOpen(size, filesOf(b.d))
	b.l = Open(b.d, size)
	b.check("Open")
	return b
}

func TestNewOfSizesAndNumbers(t *testing.T) {
	for _, size := range []int{32, 33, 64, 4095, 4096} {
		for _, next := range []int{1, 2, 127, 128, 9999, 10000, 10001} {
			newBoth(t, size, next)
		}
	}
}

// TestNewOfWhatIsNone: it answers nil, and drops nothing.
func TestNewOfWhatIsNone(t *testing.T) {
	files := map[string]string{"s00001": string(slowSeg(1, del())), "s": "junk", "o": ""}
	check := func(d *disk.Disk, size, next int) {
		t.Helper()
		if l := New(d, size, next); l != nil {
			t.Errorf("P12.1: New with size %d, next %d: not nil", size, next)
		}
		if d != nil && !maps.Equal(filesOf(d), files) {
			t.Errorf("P12.1: New with size %d, next %d: it is nil, and has changed the disk", size, next)
		}
	}
	d := diskOf(t, files)
	check(nil, 64, 1)
	for _, size := range wrongSizes() {
		check(d, size, 1)
		check(d, size, 0)
		check(nil, size, 1)
	}
	for _, next := range far() {
		if next != 10001 {
			check(d, 64, next)
			check(nil, 64, next)
		}
	}
}

func TestNewDropsWhatBeginsWithS(t *testing.T) {
	gone := map[string]string{
		"s": "", "s0": "x", "s00001": string(slowSeg(1, del())), "s00002": string(slowSeg(2, del())), "s99999": "y", "sx": "z",
		"s000001": "", "s00001 ": "", "s\xff": "", "s" + strings.Repeat("0", 39): "long",
	}
	d := diskOf(t, gone, others())
	checkLog(t, "New over files", New(d, 64, 7), d, newSlow(64, 7), others())
	left := d.Crash(0, -1)
	if !maps.Equal(filesOf(left), others()) {
		t.Errorf("P12.1: behind New and a crash the disk has %q", filesOf(left))
	}
}

func TestNewDoesNotSync(t *testing.T) {
	d := diskOf(t)
	d.Append("o", []byte("xyz"))
	if New(d, 64, 1); d.Loose() != 3 {
		t.Errorf("P12.1: New has synced the disk: %d bytes are loose", d.Loose())
	}
	if Open(d, 64); d.Loose() != 3 {
		t.Errorf("P12.2: Open has synced the disk: %d bytes are loose", d.Loose())
	}
}

// TestFilesKnownBytes: a file's name and bytes, written out.
func TestFilesKnownBytes(t *testing.T) {
	d := diskOf(t)
	l := New(d, 32, 9999)
	e := l.Append(api.Mut{Kind: api.MPut, Key: api.Key{Group: 2, Ns: 0, Id: 10}, F: 7, V: -2}, api.Mut{Kind: api.MDel})
	want := map[string]string{"s09999": "\x03\x31\x01\x68\x02S\x8f\x4e" + "\x06\x1c\x00\x5d\x00\x05\x02\x00\x0a\x07\x03" + "\x04\x03\x00\x0c\x00\x02\x00\x00\x00"}
	if got := filesOf(d); e != api.OK || !maps.Equal(got, want) {
		t.Errorf("P12.1: Append %d; the disk has %q, not %q", e, got, want)
	}
	l = New(d, 32, 10000)
	e = l.Append(api.Mut{Kind: api.MDel})
	want = map[string]string{"s10000": "\x03\x32\x01\x6a\x02S\x90\x4e" + "\x04\x03\x00\x0c\x00\x02\x00\x00\x00"}
	if got := filesOf(d); e != api.OK || !maps.Equal(got, want) {
		t.Errorf("P12.1: Append %d; the disk has %q, not %q", e, got, want)
	}
}

func TestNamesRiseWithNumbers(t *testing.T) {
	for _, next := range []int{1, 8, 9, 10, 97, 98, 998, 999, 1000, 9996, 9997} {
		b := newBoth(t, 32, next)
		for range 4 {
			b.append(set(1)).close()
		}
		if got := b.d.List(); len(got) != 4 || len(got[0]) != 6 || len(got[3]) != 6 {
			t.Errorf("P12.1: four files from %d on: %q", next, got)
		}
	}
}

// TestAppendOfNumbersOfChanges: at once as well as one by one.
func TestAppendOfNumbersOfChanges(t *testing.T) {
	for _, size := range []int{32, 40, 100, 4096} {
		for _, n := range []int{0, 1, 2, 3, 4, 5, 30} {
			newBoth(t, size, 1).append(mixed(n)...).append(mixed(n)...).append(sets(n)...)
			b := newBoth(t, size, 126).append()
			for _, m := range mixed(n) {
				b.append().append(m).append([]api.Mut{}...)
			}
		}
	}
}

// TestFilesAreClosedBySize: of changes of 10 bytes the numbers tell at which one a file is closed.
func TestFilesAreClosedBySize(t *testing.T) {
	for size := 32; size <= 4096; size++ {
		if size > 300 && size < 4070 && size%97 > 0 {
			continue
		}
		for _, next := range []int{1, 128} {
			head := len(slowHead(next))
			each := (size - head + 9) / 10
			l := New(diskOf(t), size, next)
			l.Append(sets(each)...)
			if got := l.Spans(); len(got) != 1 {
				t.Fatalf("P12.1: size %d: %d changes are %v", size, each, got)
			}
			l.Append(sets(1)...)
			want := []api.Span{{From: next, Upto: next + each - 1}, {From: next + each, Upto: next + each}}
			if got := l.Spans(); !slices.Equal(got, want) {
				t.Fatalf("P12.1: size %d: one change more than %d: %v, not %v", size, each, got, want)
			}
		}
	}
}

func TestAppendOfAllNumbers(t *testing.T) {
	for _, size := range []int{32, 1000, 4096} {
		d := diskOf(t)
		l, all := New(d, size, 1), mixed(10000)
		if e := l.Append(all...); e != api.OK || l.Next() != 10001 || l.First() != 1 {
			t.Fatalf("P12.1: Append of 10,000 changes: %d, Next %d", e, l.Next())
		}
		if e := l.Append(del()); e != api.ErrOver || l.Append() != api.OK {
			t.Errorf("P12.1: Append behind 10,000: %d", e)
		}
		if got, e := l.Read(1, 10000); e != api.OK || !slices.Equal(got, all) {
			t.Errorf("P12.1: Read of 10,000 changes: %d", e)
		}
		other := Open(d, size)
		if got, e := other.Read(1, 10000); e != api.OK || !slices.Equal(got, all) || !slices.Equal(other.Spans(), l.Spans()) {
			t.Errorf("P12.2: behind Open, Read of 10,000 changes: %d", e)
		}
	}
}

// TestAppendOfChangesThatMayNotBe: none of those beside it is appended.
func TestAppendOfChangesThatMayNotBe(t *testing.T) {
	good := mixed(5)
	for _, wrong := range wrongOnes() {
		b := newBoth(t, 40, 5).append(wrong)
		for i := range len(good) + 1 {
			b.append(slices.Insert(slices.Clone(good), i, wrong)...)
		}
		b.append(good...).append(wrong).append(good[0], wrong).close().append(wrong)
	}
	b := newBoth(t, 40, 5)
	if e := b.l.Append(del(), api.Mut{}); e != api.ErrForm {
		t.Errorf("P12.1: Append of one that may not be: %d, not %d", e, api.ErrForm)
	}
}

func TestAppendBehindTheLastNumber(t *testing.T) {
	for n := range 6 {
		for next := 9996; next <= 10001; next++ {
			b := newBoth(t, 64, next).append(sets(n)...).append().append(del()).append(sets(n)...)
			want := api.OK
			if next+n > 10001 {
				want = api.ErrOver
			}
			if e := New(b.d, 64, next).Append(sets(n)...); e != want {
				t.Errorf("P12.1: Append of %d at %d: %d, not %d", n, next, e, want)
			}
		}
	}
	for _, n := range []int{10000, 10001, 20000} {
		newBoth(t, 64, 5).append(del()).append(sets(n)...)
	}
}

// TestAppendOfSeveralErrors: ErrForm counts ahead of ErrOver, wherever the wrong one stands.
func TestAppendOfSeveralErrors(t *testing.T) {
	for _, wrong := range wrongOnes() {
		for i := range 4 {
			b := newBoth(t, 64, 9999).append(slices.Insert(sets(3), i, wrong)...)
			if e := b.l.Append(slices.Insert(sets(3), i, wrong)...); e != api.ErrForm {
				t.Errorf("P12.1: Append of a wrong one and too many: %d, not %d", e, api.ErrForm)
			}
			newBoth(t, 64, 10001).append(slices.Insert(sets(i), i, wrong)...)
		}
	}
}

func TestClose(t *testing.T) {
	newBoth(t, 64, 5).close().close().append(del()).close().close().append(del())
	b := newBoth(t, 64, 5).append(del()).append(del()).close().append(del(), del()).close().append(del())
	if got, want := b.l.Spans(), []api.Span{{From: 5, Upto: 6}, {From: 7, Upto: 8}, {From: 9, Upto: 9}}; !slices.Equal(got, want) {
		t.Errorf("P12.1: Close: %v, not %v", got, want)
	}
	newBoth(t, 32, 5).append(sets(3)...).close().append(sets(1)...).close().close()
	newBoth(t, 64, 10000).append(del()).close().append(del()).close()
	newBoth(t, 64, 10001).close().append(del())
}

// TestCloseOfFileWithoutChange: one that is just a Head is not closed.
func TestCloseOfFileWithoutChange(t *testing.T) {
	for _, files := range []map[string]string{
		{"s00003": string(slowHead(3))},
		{"s00001": string(slowSeg(1, sets(2)...)), "s00003": string(slowHead(3))},
	} {
		d := diskOf(t, files)
		b := (&both{t: t, d: d}).open(64).close().close().append(del())
		if got := len(b.l.Spans()); got != len(files) {
			t.Errorf("P12.1: a Head alone was closed: %v", b.l.Spans())
		}
		b.close().append(del())
		if got := len(b.l.Spans()); got != len(files)+1 {
			t.Errorf("P12.1: one with a change was not closed: %v", b.l.Spans())
		}
	}
}

func TestReadOfAllRanges(t *testing.T) {
	for _, next := range []int{1, 5, 9985} {
		b := newBoth(t, 40, next)
		for from := next - 3; from <= next+3; from++ {
			for upto := next - 3; upto <= next+3; upto++ {
				checkRead(t, "a log without files", b.l, b.s, from, upto)
			}
		}
		b.append(mixed(9)...).close().append(sets(5)...)
		for from := next - 3; from <= next+18; from++ {
			for upto := next - 4; upto <= next+18; upto++ {
				checkRead(t, "several files", b.l, b.s, from, upto)
			}
		}
	}
}

func TestReadOfFarNumbers(t *testing.T) {
	b := newBoth(t, 40, 3).append(mixed(9)...)
	for _, from := range append(far(), 3, 11, 12) {
		for _, upto := range append(far(), 3, 11, 12) {
			checkRead(t, "far numbers", b.l, b.s, from, upto)
		}
	}
	// Where one less than the least int would be, if it were one.
	if _, e := b.l.Read(math.MinInt, math.MaxInt); e != api.ErrRange {
		t.Errorf("P0.6: Read of the least int to the greatest: %d", e)
	}
	if ms, e := b.l.Read(math.MinInt+1, math.MinInt); len(ms) > 0 || e != api.OK {
		t.Errorf("P12.1: Read of none: %d", e)
	}
}

// TestReadOfFilesThatOthersChanged: what is not there any more as it was is not told.
func TestReadOfFilesThatOthersChanged(t *testing.T) {
	for _, change := range []func(d *disk.Disk){
		func(d *disk.Disk) { d.Drop("s00005") },
		func(d *disk.Disk) { d.Cut("s00005", 0) },
		func(d *disk.Disk) { d.Cut("s00005", 17) },
		func(d *disk.Disk) { d.Append("s00005", []byte("x")) },
		func(d *disk.Disk) { d.Append("s00005", slowChange(del())) },
	} {
		b := newBoth(t, 40, 1).append(sets(12)...)
		change(b.d)
		for _, r := range [][2]int{{1, 12}, {5, 5}, {8, 8}, {4, 9}} {
			if ms, e := b.l.Read(r[0], r[1]); ms != nil || e != api.ErrRange {
				t.Errorf("P12.1: Read of what is not there: %v, %d", ms, e)
			}
		}
		checkRead(t, "a file beside it", b.l, b.s, 1, 4)
		checkRead(t, "a file beside it", b.l, b.s, 9, 12)
		b.l.Cut(6)
		b.l.Append(del())
		b.l.Trim(99)
	}
}

func TestNilLog(t *testing.T) {
	for _, l := range []*Log{nil, {}} {
		l.Close()
		ms, e := l.Read(1, 1)
		if ms != nil || e != api.ErrOff {
			t.Errorf("P12.1: nil: Read %v, %d", ms, e)
		}
		if _, e := l.Read(1, 0); e != api.ErrOff {
			t.Errorf("P12.1: nil: Read of none: %d", e)
		}
		if l.Append() != api.ErrOff || l.Append(del()) != api.ErrOff || l.Append(api.Mut{}) != api.ErrOff || l.Cut(0) != api.ErrOff || l.Cut(-1) != api.ErrOff {
			t.Error("P12.1: nil: Append, Cut")
		}
		if l.Next() != 0 || l.First() != 0 || l.Trim(9) != 0 || l.Spans() != nil {
			t.Error("P12.1: nil: Next, First, Trim, Spans")
		}
	}
}

// TestArgumentsAreLeft: neither the changes that are handed in are written into, nor their spare room, nor are they kept.
func TestArgumentsAreLeft(t *testing.T) {
	row := mixed(40)
	was := slices.Clone(row)
	b := newBoth(t, 40, 1)
	for n := range 12 {
		b.append(row[:n]...)
	}
	b.append(append(slices.Clone(row[:5]), api.Mut{})...)
	if !slices.Equal(row, was) {
		t.Error("P0.3: Append changes what is handed in, or its spare room")
	}
	clear(row)
	b.check("what was handed in was cleared")
}

// TestAnswersAreTheCallersOwn: whoever writes into an answer, spare room too, changes nothing else.
func TestAnswersAreTheCallersOwn(t *testing.T) {
	b := newBoth(t, 40, 1).append(mixed(9)...)
	other, _ := b.l.Read(2, 8)
	want, otherSpans := slices.Clone(other), b.l.Spans()
	for _, r := range [][2]int{{1, 9}, {2, 8}, {2, 2}, {5, 5}, {3, 2}} {
		ms, _ := b.l.Read(r[0], r[1])
		clear(ms[:cap(ms)])
	}
	spans := b.l.Spans()
	clear(spans[:cap(spans)])
	b.check("answers were cleared")
	if !slices.Equal(other, want) || !slices.Equal(otherSpans, b.s.spans()) {
		t.Error("P0.3: an answer changed behind its call")
	}
	b.append(mixed(3)...).close().append(mixed(3)...)
	if !slices.Equal(other, want) || len(otherSpans) == len(b.l.Spans()) {
		t.Error("P0.3: an answer changed behind its call")
	}
}
