package chlog

import (
	"fmt"
	"maps"
	"slices"
	"strings"
	"testing"

	"remembrancer/api"
	"remembrancer/disk"
)

type files = map[string]string

// fileOf is the bytes of a file with n changes from that number on.
func fileOf(from, n int) string {
	return string(slowSeg(from, sets(n)...))
}

// checkOpen opens a disk with these files and others, holds the log against the slow one, and goes on with it.
func checkOpen(t *testing.T, at string, size int, fs files) *Log {
	t.Helper()
	d, s := diskOf(t, fs, others()), slowOpen(size, fs)
	l := Open(d, size)
	checkLog(t, at, l, d, s, others())
	checkLog(t, at+", twice", Open(d, size), d, s, others())
	again := Open(d, size)
	for range 3 {
		again.Append(sets(2)...)
		s.append(sets(2)...)
	}
	again.Close()
	s.close()
	again.Append(del())
	s.append(del())
	checkLog(t, at+", and more", again, d, s, others())
	return l
}

// TestOpenKnown: what is found and what is left, written out.
func TestOpenKnown(t *testing.T) {
	for _, c := range []struct {
		at    string
		files files
		want  string
		names []string
	}{
		{"nothing", files{}, "1 1 []", nil},
		{"one", files{"s00001": fileOf(1, 2)}, "1 3 [{1 2}]", []string{"s00001"}},
		{"from elsewhere", files{"s00300": fileOf(300, 2), "s00302": fileOf(302, 1)}, "300 303 [{300 301} {302 302}]", []string{"s00300", "s00302"}},
		{"up to 10,000", files{"s09999": fileOf(9999, 1), "s10000": fileOf(10000, 1)}, "9999 10001 [{9999 9999} {10000 10000}]", []string{"s09999", "s10000"}},
		{"beyond 10,000", files{"s09999": fileOf(9999, 3)}, "9999 10001 [{9999 10000}]", []string{"s09999"}},
		{"a Head", files{"s00007": fileOf(7, 0)}, "7 7 [{7 6}]", []string{"s00007"}},
		{"a Head behind", files{"s00007": fileOf(7, 2), "s00009": fileOf(9, 0)}, "7 9 [{7 8} {9 8}]", []string{"s00007", "s00009"}},
		{"a Head, and one behind it", files{"s00007": fileOf(7, 0), "s00008": fileOf(8, 1)}, "7 7 [{7 6}]", []string{"s00007"}},
		{"a Head, and what is torn", files{"s00007": fileOf(7, 1)[:12]}, "1 1 []", nil},
		{"a Head behind, and what is torn", files{"s00007": fileOf(7, 2), "s00009": fileOf(9, 1)[:12]}, "7 9 [{7 8}]", []string{"s00007"}},
		{"torn", files{"s00007": fileOf(7, 2)[:26], "s00009": fileOf(9, 1)}, "7 8 [{7 7}]", []string{"s00007"}},
		{"torn, and one that would go on", files{"s00007": fileOf(7, 2)[:26], "s00008": fileOf(8, 1)}, "7 8 [{7 7}]", []string{"s00007"}},
		{"a hole", files{"s00001": fileOf(1, 2), "s00004": fileOf(4, 1), "s00005": fileOf(5, 1)}, "1 3 [{1 2}]", []string{"s00001"}},
		{"one over another", files{"s00001": fileOf(1, 3), "s00003": fileOf(3, 2), "s00005": fileOf(5, 2)}, "1 4 [{1 3}]", []string{"s00001"}},
		{"another's name", files{"s00001": fileOf(2, 2)}, "1 1 []", nil},
		{"another's name behind", files{"s00001": fileOf(1, 2), "s00003": fileOf(4, 2), "s00004": fileOf(4, 2)}, "1 3 [{1 2}]", []string{"s00001"}},
		{"its number, another's name", files{"s00001": fileOf(1, 2), "s00004": fileOf(3, 2)}, "1 3 [{1 2}]", []string{"s00001"}},
		{"a head that is none", files{"s00001": "junk", "s00002": fileOf(2, 1)}, "1 1 []", nil},
		{"no bytes", files{"s00001": "", "s00002": fileOf(2, 1)}, "1 1 []", nil},
		{"no bytes behind", files{"s00001": fileOf(1, 1), "s00002": "", "s00003": fileOf(3, 1)}, "1 2 [{1 1}]", []string{"s00001"}},
		{"number 0", files{"s00000": string(slowHead(0)), "s00001": fileOf(1, 1)}, "1 1 []", nil},
		{"number 10,001", files{"s10001": fileOf(10001, 1)}, "1 1 []", nil},
		{"number 10,001 behind", files{"s10000": fileOf(10000, 1), "s10001": fileOf(10001, 1)}, "10000 10001 [{10000 10000}]", []string{"s10000"}},
	} {
		l := checkOpen(t, c.at, 64, c.files)
		if got := fmt.Sprint(l.First(), l.Next(), l.Spans()); got != c.want {
			t.Errorf("P12.2: %s: %s, not %s", c.at, got, c.want)
		}
		d := diskOf(t, c.files)
		if Open(d, 64); !slices.Equal(d.List(), c.names) {
			t.Errorf("P12.2: %s: %q are left, not %q", c.at, d.List(), c.names)
		}
	}
}

// TestOpenOfWhatIsNone: it answers nil, and changes nothing.
func TestOpenOfWhatIsNone(t *testing.T) {
	fs := files{"s00001": fileOf(1, 2)[:20], "sx": "", "o": "x"}
	d := diskOf(t, fs)
	for _, size := range wrongSizes() {
		if Open(d, size) != nil || Open(nil, size) != nil {
			t.Errorf("P12.2: Open with size %d: not nil", size)
		}
	}
	if Open(nil, 64) != nil {
		t.Error("P12.2: Open of nil: not nil")
	}
	if !maps.Equal(filesOf(d), fs) {
		t.Errorf("P12.2: Open that is nil has changed the disk: %q", filesOf(d))
	}
	if Open(d, 32) == nil || Open(d, 4096) == nil {
		t.Error("P12.2: Open with size 32, 4096: nil")
	}
}

func TestOpenOfWhatALogLeft(t *testing.T) {
	for name, shape := range shapes() {
		t.Run(name, func(t *testing.T) {
			for _, size := range []int{32, 37, 40, 100, 4096} {
				left := filesOf(shape(t).d)
				checkOpen(t, name, size, left)
			}
		})
	}
}

// TestOpenOfNamesThatAreNone: a file that begins with s and is no log's stands among the others by its name, and is not right.
func TestOpenOfNamesThatAreNone(t *testing.T) {
	for _, name := range []string{
		"s", "s ", "s0", "s00", "s3", "s03", "s0003", "s000003", "s00003x", "s00003 ", "s0000x", "s+0003", "s-0003", "s 0003", "sS", "sx", "s\xff", "s\x00",
		"s00003\x00", "s٣", "ss00003", "s99999", "s10001", "s" + strings.Repeat("0", 38) + "3", "s0000003",
	} {
		for _, b := range []string{"", "junk", fileOf(3, 1), fileOf(4, 1), fileOf(5, 2), string(slowHead(4))} {
			checkOpen(t, fmt.Sprintf("with %q", name), 64, files{name: b, "s00003": fileOf(3, 1), "s00004": fileOf(4, 1)})
			checkOpen(t, fmt.Sprintf("%q alone", name), 64, files{name: b})
		}
	}
	l := checkOpen(t, "behind", 64, files{"s00003": fileOf(3, 1), "s00003x": fileOf(4, 1), "s00004": fileOf(4, 1)})
	if l.Next() != 4 {
		t.Errorf("P12.2: one that is none among right ones: Next %d, not 4", l.Next())
	}
	l = checkOpen(t, "ahead", 64, files{"s0": "", "s00003": fileOf(3, 1)})
	if l.Next() != 1 {
		t.Errorf("P12.2: one that is none ahead of a right one: Next %d, not 1", l.Next())
	}
}

// change counts the place over all files, by rising names, and tells the files with that one's bytes changed.
func change(fs files, place int, to func(b []byte, i int) []byte) files {
	out := maps.Clone(fs)
	for _, name := range slices.Sorted(maps.Keys(fs)) {
		if place < len(fs[name]) {
			out[name] = string(to([]byte(fs[name]), place))
			return out
		}
		place -= len(fs[name])
	}
	return out
}

func sizeOf(fs files) int {
	n := 0
	for _, b := range fs {
		n += len(b)
	}
	return n
}

// broken are three files of all kinds of changes.
func broken(t *testing.T) files {
	return filesOf(newBoth(t, 70, 125).append(mixed(14)...).close().append(mixed(2)...).d)
}

// TestOpenOfOneThatIsTorn at any place, with files behind it.
func TestOpenOfOneThatIsTorn(t *testing.T) {
	all := broken(t)
	for place := range sizeOf(all) {
		checkOpen(t, fmt.Sprint("torn at ", place), 70, change(all, place, func(b []byte, i int) []byte { return b[:i] }))
	}
}

func TestOpenOfOneWithAByteTurned(t *testing.T) {
	all := broken(t)
	for place := range sizeOf(all) {
		for _, bit := range []byte{1, 2, 4, 8, 16, 32, 64, 128, 255} {
			turned := change(all, place, func(b []byte, i int) []byte { b[i] ^= bit; return b })
			checkOpen(t, fmt.Sprint("turned at ", place), 70, turned)
		}
	}
}

func TestOpenOfOneWithAByteMoreOrLess(t *testing.T) {
	all := broken(t)
	for place := range sizeOf(all) {
		checkOpen(t, fmt.Sprint("less at ", place), 70, change(all, place, func(b []byte, i int) []byte { return slices.Delete(b, i, i+1) }))
		for _, c := range []byte{0, 1, 5, 'S', 128} {
			checkOpen(t, fmt.Sprint("more at ", place), 70, change(all, place, func(b []byte, i int) []byte { return slices.Insert(b, i, c) }))
		}
	}
}

// TestOpenKeepsWhatIsAheadOfAFault: once more without the slow log. Three files of 47 bytes have four changes each.
func TestOpenKeepsWhatIsAheadOfAFault(t *testing.T) {
	d := disk.New()
	l := New(d, 47, 1)
	l.Append(sets(12)...)
	d.Sync()
	for place := range 3 * 47 {
		after := Open(d.Crash(0, place), 47)
		want := place/47*4 + max(place%47-7, 0)/10
		if got, e := after.Read(1, want); e != api.OK || after.Next() != want+1 || !slices.Equal(got, sets(12)[:want]) {
			t.Errorf("P12.2: turned at %d: Next %d, not %d; %d", place, after.Next(), want+1, e)
		}
	}
}

// TestOpenOfFramesThatAreNoChanges: their sums are right, but what stands in them is no change.
func TestOpenOfFramesThatAreNoChanges(t *testing.T) {
	for _, text := range []string{"", "S", "S\x05", "\x01", "\x01\x01\x00\x05\x02\x00", "\x07\x00\x00\x00", "\x02\x04\x00\x00", "\x05\x00\x00\x00\x08\x00", strings.Repeat("x", 4096), strings.Repeat("x", 4097)} {
		wrong := string(slowFrame([]byte(text)))
		checkOpen(t, "behind a change", 64, files{"s00003": fileOf(3, 1) + wrong, "s00004": fileOf(4, 1)})
		checkOpen(t, "among changes", 64, files{"s00003": fileOf(3, 1) + wrong + string(slowChange(del())), "s00005": fileOf(5, 1)})
		checkOpen(t, "behind a Head", 64, files{"s00003": fileOf(3, 0) + wrong, "s00004": fileOf(4, 1)})
		checkOpen(t, "as a Head", 64, files{"s00003": wrong + string(slowChange(del())), "s00004": fileOf(4, 1)})
	}
}

// TestOpenOfGreatFiles: a file may have more bytes than any size.
func TestOpenOfGreatFiles(t *testing.T) {
	great := string(slowSeg(1, slices.Repeat([]api.Mut{del()}, 7281)...))
	if len(great) != 65536 {
		t.Fatalf("the test's own sum is wrong: %d", len(great))
	}
	for _, fs := range []files{
		{"s00001": great},
		{"s00001": great, "s07282": fileOf(7282, 2)},
		{"s00001": great[:65535], "s07281": fileOf(7281, 2)},
		{"s00001": great[:65527] + "x", "s07281": fileOf(7281, 2)},
	} {
		for _, size := range []int{32, 4096} {
			checkOpen(t, "a great file", size, fs)
		}
	}
}

// TestHeadThatIsAlone: its Span, what is appended, what a Cut does.
func TestHeadThatIsAlone(t *testing.T) {
	made := func(fs files) *both {
		return (&both{t: t, d: diskOf(t, fs)}).open(64)
	}
	alone := files{"s00003": string(slowHead(3))}
	b := made(alone)
	checkSpans(t, "a Head", b.l, api.Span{From: 3, Upto: 2})
	if b.l.First() != 3 || b.l.Next() != 3 {
		t.Errorf("P12.2: a Head: First %d, Next %d", b.l.First(), b.l.Next())
	}
	b.trim(99).append().append(sets(2)...)
	checkSpans(t, "a Head, and two more", b.l, api.Span{From: 3, Upto: 4})
	b.cut(2)
	checkSpans(t, "cut to its first less 1", b.l)
	b = made(alone).cut(3).cut(1).cut(2)
	checkSpans(t, "cut as it is", b.l)
	if len(b.d.List()) > 0 || b.l.First() != 3 || b.l.Next() != 3 {
		t.Errorf("P12.2: a Head that a Cut dropped: %q, First %d, Next %d", b.d.List(), b.l.First(), b.l.Next())
	}
	behind := files{"s00001": string(slowSeg(1, sets(2)...)), "s00003": string(slowHead(3))}
	b = made(behind)
	checkSpans(t, "behind one", b.l, api.Span{From: 1, Upto: 2}, api.Span{From: 3, Upto: 2})
	b.trim(1).cut(2)
	checkSpans(t, "behind one, and cut", b.l, api.Span{From: 1, Upto: 2})
	if got := made(behind).l.Trim(2); got != 1 {
		t.Errorf("P12.1: Trim ahead of a Head: %d", got)
	}
}
