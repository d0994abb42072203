package disk

import (
	"bytes"
	"maps"
	"math"
	"math/rand"
	"slices"
	"strconv"
	"strings"
	"testing"

	"remembrancer/api"
)

// fs are files by names, as the tests write them.
type fs = map[string]string

// slow is a disk by other means than the package's: a list of single events, gone through from the first on for each question.
type slow struct {
	events []event
	synced int // events
}

// event: 'm': the file is there; 'b': a byte is behind it; 'c': n bytes stay; 'd': it goes.
type event struct {
	does byte
	name string
	b    byte
	n    int
}

// upto tells the files behind the first events, and of those that follow as many as go with at most kept bytes.
func (s *slow) upto(first, kept int) fs {
	out := fs{}
	for i, e := range s.events {
		if e.does == 'b' && i >= first {
			if kept <= 0 {
				break
			}
			kept--
		}
		switch e.does {
		case 'm':
			out[e.name] += ""
		case 'b':
			out[e.name] += string([]byte{e.b})
		case 'c':
			out[e.name] = out[e.name][:e.n]
		case 'd':
			delete(out, e.name)
		}
	}
	return out
}

func (s *slow) all() fs { return s.upto(len(s.events), 0) }

func (s *slow) loose() int {
	n := 0
	for _, e := range s.events[s.synced:] {
		if e.does == 'b' {
			n++
		}
	}
	return n
}

func (s *slow) append(name, b string) api.Errno {
	if name == "" || len(name) > 40 {
		return api.ErrRange
	}
	if len(s.all()[name])+len(b) > 65536 {
		return api.ErrLarge
	}
	if b == "" {
		s.events = append(s.events, event{does: 'm', name: name})
	}
	for i := range len(b) {
		s.events = append(s.events, event{does: 'b', name: name, b: b[i]})
	}
	return api.OK
}

func (s *slow) cut(name string, n int) api.Errno {
	old, there := s.all()[name]
	if !there {
		return api.ErrNone
	}
	if n < 0 || n > len(old) {
		return api.ErrRange
	}
	s.events = append(s.events, event{does: 'c', name: name, n: n})
	return api.OK
}

func (s *slow) drop(name string) api.Errno {
	if _, there := s.all()[name]; !there {
		return api.ErrNone
	}
	s.events = append(s.events, event{does: 'd', name: name})
	return api.OK
}

func (s *slow) sync() { s.synced = len(s.events) }

func (s *slow) crash(kept, bad int) fs {
	out := s.upto(s.synced, kept)
	at := 0
	for _, name := range slices.Sorted(maps.Keys(out)) {
		b := []byte(out[name])
		for i := range b {
			if at == bad && b[i]%2 == 0 {
				b[i]++
			} else if at == bad {
				b[i]--
			}
			at++
		}
		out[name] = string(b)
	}
	return out
}

// told tells a disk's files, as the faces of the disk have them.
func told(t *testing.T, d *Disk) fs {
	t.Helper()
	names := d.List()
	if !slices.IsSorted(names) {
		t.Errorf("P5.1: List does not rise: %q", names)
	}
	out := fs{}
	for _, name := range names {
		b, e := d.Read(name)
		if e != api.OK {
			t.Errorf("P5.1: Read(%q), which is listed: %d", name, e)
		}
		out[name] = string(b)
	}
	if len(out) != len(names) {
		t.Errorf("P5.1: List tells a name twice: %q", names)
	}
	return out
}

func checkFiles(t *testing.T, at string, d *Disk, want fs, loose int) {
	t.Helper()
	if got := told(t, d); !maps.Equal(got, want) {
		t.Errorf("P5.1: %s: %.200q, not %.200q", at, got, want)
	}
	if got := d.Loose(); got != loose {
		t.Errorf("P5.1: %s: Loose %d, not %d", at, got, loose)
	}
}

// checkCrash holds what a crash leaves against what is wanted, and asks that all of it is synced and that d is as it was.
func checkCrash(t *testing.T, d *Disk, kept, bad int, want fs) {
	t.Helper()
	before, loose := told(t, d), d.Loose()
	at := "Crash(" + strconv.Itoa(kept) + ", " + strconv.Itoa(bad) + ")"
	left := d.Crash(kept, bad)
	if left == nil || left == d {
		t.Fatalf("P5.1: %s is nil or the disk itself", at)
	}
	checkFiles(t, at, left, want, 0)
	checkFiles(t, at+", and a second one", left.Crash(0, -1), want, 0)
	checkFiles(t, at+", the disk itself", d, before, loose)
}

func checkErrno(t *testing.T, what string, got, want api.Errno) {
	t.Helper()
	if got != want {
		t.Errorf("P5.1: %s: %d, not %d", what, got, want)
	}
}

// made is a disk on which files were appended, and which was then synced: name, bytes, name, bytes...
func made(t *testing.T, pairs ...string) *Disk {
	t.Helper()
	d := New()
	mustAppend(t, d, pairs...)
	d.Sync()
	return d
}

func mustAppend(t *testing.T, d *Disk, pairs ...string) {
	t.Helper()
	for i := 0; i < len(pairs); i += 2 {
		if e := d.Append(pairs[i], []byte(pairs[i+1])); e != api.OK {
			t.Fatalf("P5.1: Append(%q, %d bytes): %d", pairs[i], len(pairs[i+1]), e)
		}
	}
}

func mustCut(t *testing.T, d *Disk, name string, n int) {
	t.Helper()
	if e := d.Cut(name, n); e != api.OK {
		t.Fatalf("P5.1: Cut(%q, %d): %d", name, n, e)
	}
}

func mustDrop(t *testing.T, d *Disk, name string) {
	t.Helper()
	if e := d.Drop(name); e != api.OK {
		t.Fatalf("P5.1: Drop(%q): %d", name, e)
	}
}

func TestNew(t *testing.T) {
	a, b := New(), New()
	if a == nil || b == nil || a == b {
		t.Fatal("P5.1: New is nil, or no new one")
	}
	checkFiles(t, "a new one", a, fs{}, 0)
	a.Sync()
	checkFiles(t, "a new one, synced", a, fs{}, 0)
	checkCrash(t, a, 5, 0, fs{})
	mustAppend(t, a, "n", "x")
	checkFiles(t, "another one", b, fs{}, 0)
}

func TestAppendCutDropRead(t *testing.T) {
	d := New()
	mustAppend(t, d, "b", "hello", "a", "first", "b", " there", "c", "")
	checkFiles(t, "appended", d, fs{"a": "first", "b": "hello there", "c": ""}, 16)
	mustCut(t, d, "b", 4)
	checkFiles(t, "cut", d, fs{"a": "first", "b": "hell", "c": ""}, 16)
	mustAppend(t, d, "b", "!")
	checkFiles(t, "appended behind a cut", d, fs{"a": "first", "b": "hell!", "c": ""}, 17)
	mustDrop(t, d, "a")
	checkFiles(t, "dropped", d, fs{"b": "hell!", "c": ""}, 17)
	if b, e := d.Read("a"); b != nil || e != api.ErrNone {
		t.Errorf("P5.1: Read of what was dropped: %q, %d", b, e)
	}
	checkErrno(t, "Drop again", d.Drop("a"), api.ErrNone)
	checkErrno(t, "Cut of what was dropped", d.Cut("a", 0), api.ErrNone)
	mustAppend(t, d, "a", "new")
	checkFiles(t, "made again", d, fs{"a": "new", "b": "hell!", "c": ""}, 20)
	d.Sync()
	checkFiles(t, "synced", d, fs{"a": "new", "b": "hell!", "c": ""}, 0)
}

func TestList(t *testing.T) {
	d := New()
	want := []string{"\x00", "B", "a", "ab", "b", "b/1", "b/10", "b/2", "é", "\xff"}
	for _, i := range []int{7, 2, 6, 4, 9, 5, 8, 1, 0, 3} {
		mustAppend(t, d, want[i], "")
	}
	if got := d.List(); !slices.Equal(got, want) {
		t.Errorf("P5.1: List %q, not %q", got, want)
	}
	if got := New().List(); len(got) != 0 {
		t.Errorf("P5.1: List of nothing: %q", got)
	}
}

func TestNamesAtTheEdges(t *testing.T) {
	for _, c := range []struct {
		name string
		want api.Errno
	}{
		{"", api.ErrRange},
		{"x", api.OK},
		{"\x00", api.OK},
		{"\xff\xfe", api.OK},
		{strings.Repeat("x", 39), api.OK},
		{strings.Repeat("x", 40), api.OK},
		{strings.Repeat("é", 20), api.OK},
		{strings.Repeat("é", 21), api.ErrRange},
		{strings.Repeat("x", 41), api.ErrRange},
		{strings.Repeat("x", 100000), api.ErrRange},
	} {
		what := "a name of " + strconv.Itoa(len(c.name)) + " bytes"
		for _, b := range []string{"ab", ""} {
			d := New()
			checkErrno(t, what, d.Append(c.name, []byte(b)), c.want)
			if c.want == api.OK {
				checkFiles(t, what, d, fs{c.name: b}, len(b))
				checkCrash(t, d, 2, -1, fs{c.name: b})
			} else {
				checkFiles(t, what, d, fs{}, 0)
				checkCrash(t, d, 2, -1, fs{})
			}
		}
	}
}

func TestNoneOfThatName(t *testing.T) {
	d := New()
	mustAppend(t, d, "a", "x")
	for _, name := range []string{"", "b", "A", "aa", "a\x00", strings.Repeat("a", 40), strings.Repeat("a", 41), strings.Repeat("a", 100000)} {
		if b, e := d.Read(name); b != nil || e != api.ErrNone {
			t.Errorf("P5.1: Read(%d bytes of name): %q, %d", len(name), b, e)
		}
		checkErrno(t, "Drop of none", d.Drop(name), api.ErrNone)
		for _, n := range []int{math.MinInt, -1, 0, 1, math.MaxInt} {
			checkErrno(t, "Cut of none", d.Cut(name, n), api.ErrNone)
		}
	}
	checkFiles(t, "nothing was done", d, fs{"a": "x"}, 1)
	checkCrash(t, d, 1, -1, fs{"a": "x"})
}

func TestFilesAtTheEdges(t *testing.T) {
	for _, c := range []struct {
		old, n int
		want   api.Errno
	}{
		{0, 65535, api.OK},
		{0, 65536, api.OK},
		{0, 65537, api.ErrLarge},
		{0, 1 << 20, api.ErrLarge},
		{1, 65535, api.OK},
		{1, 65536, api.ErrLarge},
		{65535, 1, api.OK},
		{65535, 2, api.ErrLarge},
		{65536, 0, api.OK},
		{65536, 1, api.ErrLarge},
	} {
		d := New()
		old := strings.Repeat("o", c.old)
		mustAppend(t, d, "n", old, "other", "x")
		d.Sync()
		b := strings.Repeat("x", c.n)
		checkErrno(t, strconv.Itoa(c.n)+" bytes behind "+strconv.Itoa(c.old), d.Append("n", []byte(b)), c.want)
		if c.want == api.OK {
			checkFiles(t, "a long file", d, fs{"n": old + b, "other": "x"}, c.n)
			checkCrash(t, d, c.n, -1, fs{"n": old + b, "other": "x"})
		} else {
			checkFiles(t, "too long a file", d, fs{"n": old, "other": "x"}, 0)
			checkCrash(t, d, c.n, -1, fs{"n": old, "other": "x"})
		}
	}
}

func TestTooLongANewFileIsNotMade(t *testing.T) {
	d := New()
	checkErrno(t, "a new file, too long", d.Append("n", make([]byte, 65537)), api.ErrLarge)
	checkFiles(t, "not made", d, fs{}, 0)
	checkCrash(t, d, math.MaxInt, -1, fs{})
}

func TestALongFileHasRoomBehindACut(t *testing.T) {
	d := New()
	long := strings.Repeat("x", 65536)
	mustAppend(t, d, "n", long)
	mustCut(t, d, "n", 65535)
	checkErrno(t, "two bytes, room for one", d.Append("n", []byte("ab")), api.ErrLarge)
	mustAppend(t, d, "n", "a")
	checkFiles(t, "full again", d, fs{"n": long[1:] + "a"}, 65537)
	mustDrop(t, d, "n")
	mustAppend(t, d, "n", long)
	checkFiles(t, "a new one", d, fs{"n": long}, 65537+65536)
	checkCrash(t, d, math.MaxInt, -1, fs{"n": long})
	checkCrash(t, d, 65537, -1, fs{})
}

func TestOrderOfErrors(t *testing.T) {
	d := New()
	large := make([]byte, 65537)
	checkErrno(t, "no name, too long", d.Append("", large), api.ErrRange)
	checkErrno(t, "a long name, too long", d.Append(strings.Repeat("x", 41), large), api.ErrRange)
	checkErrno(t, "a name, too long", d.Append("x", large), api.ErrLarge)
	checkFiles(t, "behind errors", d, fs{}, 0)
}

func TestCutAtTheEdges(t *testing.T) {
	for _, c := range []struct {
		n    int
		want api.Errno
		left string
	}{
		{math.MinInt, api.ErrRange, "hello"},
		{-1, api.ErrRange, "hello"},
		{0, api.OK, ""},
		{1, api.OK, "h"},
		{4, api.OK, "hell"},
		{5, api.OK, "hello"},
		{6, api.ErrRange, "hello"},
		{math.MaxInt, api.ErrRange, "hello"},
	} {
		d := made(t, "a", "hello", "b", "other")
		checkErrno(t, "Cut at "+strconv.Itoa(c.n), d.Cut("a", c.n), c.want)
		checkFiles(t, "cut at "+strconv.Itoa(c.n), d, fs{"a": c.left, "b": "other"}, 0)
		checkCrash(t, d, 0, -1, fs{"a": c.left, "b": "other"})
	}
	d := made(t, "a", "")
	checkErrno(t, "an empty file at 0", d.Cut("a", 0), api.OK)
	checkErrno(t, "an empty file at 1", d.Cut("a", 1), api.ErrRange)
	checkErrno(t, "an empty file below 0", d.Cut("a", -1), api.ErrRange)
	checkFiles(t, "an empty file", d, fs{"a": ""}, 0)
}

func TestCutAndAppendLeaveWhatWasSynced(t *testing.T) {
	d := made(t, "a", "12345")
	mustCut(t, d, "a", 2)
	mustAppend(t, d, "a", "xyz")
	mustCut(t, d, "a", 3)
	mustAppend(t, d, "a", "!")
	checkFiles(t, "cut and appended", d, fs{"a": "12x!"}, 4)
	checkCrash(t, d, 0, -1, fs{"a": "12"})
	checkCrash(t, d, 1, -1, fs{"a": "12x"})
	checkCrash(t, d, 2, -1, fs{"a": "12xy"})
	checkCrash(t, d, 3, -1, fs{"a": "12x"})
	checkCrash(t, d, 4, -1, fs{"a": "12x!"})
}

func TestAppendOfNoBytesMakesAFile(t *testing.T) {
	for _, b := range [][]byte{nil, {}} {
		d := New()
		checkErrno(t, "no bytes", d.Append("a", b), api.OK)
		checkFiles(t, "made by no bytes", d, fs{"a": ""}, 0)
		checkErrno(t, "no bytes again", d.Append("a", b), api.OK)
		mustAppend(t, d, "a", "x")
		checkErrno(t, "no bytes behind some", d.Append("a", b), api.OK)
		checkFiles(t, "no bytes change nothing", d, fs{"a": "x"}, 1)
	}
}

func TestLooseCountsWhateverBecameOfIt(t *testing.T) {
	d := New()
	for _, c := range []struct {
		does  func()
		loose int
	}{
		{func() { d.Append("a", []byte("12345")) }, 5},
		{func() { d.Append("b", []byte("xy")) }, 7},
		{func() { d.Append("b", nil) }, 7},
		{func() { d.Cut("a", 1) }, 7},
		{func() { d.Drop("b") }, 7},
		{func() { d.Drop("a") }, 7},
		{func() { d.Append("", []byte("z")) }, 7},
		{func() { d.Append("a", make([]byte, 65537)) }, 7},
		{func() { d.Cut("none", 0) }, 7},
		{func() { d.Crash(3, 1) }, 7},
		{func() { d.Append("a", []byte("z")) }, 8},
		{func() { d.Sync() }, 0},
		{func() { d.Cut("a", 0) }, 0},
		{func() { d.Drop("a") }, 0},
		{func() { d.Append("c", []byte("123")) }, 3},
		{func() { d.Sync() }, 0},
		{func() { d.Sync() }, 0},
	} {
		if c.does(); d.Loose() != c.loose {
			t.Errorf("P5.1: Loose %d, not %d", d.Loose(), c.loose)
		}
	}
}

func TestSync(t *testing.T) {
	d := New()
	mustAppend(t, d, "a", "12345", "b", "x", "e", "")
	checkCrash(t, d, 0, -1, fs{})
	d.Sync()
	checkCrash(t, d, 0, -1, fs{"a": "12345", "b": "x", "e": ""})
	mustCut(t, d, "a", 2)
	mustDrop(t, d, "b")
	mustAppend(t, d, "a", "+", "c", "new")
	checkCrash(t, d, 0, -1, fs{"a": "12", "e": ""})
	d.Sync()
	checkCrash(t, d, 0, -1, fs{"a": "12+", "c": "new", "e": ""})
	checkCrash(t, d, math.MaxInt, -1, fs{"a": "12+", "c": "new", "e": ""})
	mustDrop(t, d, "c")
	mustAppend(t, d, "c", "again")
	d.Sync()
	d.Sync()
	checkCrash(t, d, 0, -1, fs{"a": "12+", "c": "again", "e": ""})
}

// busy is a disk with changes of all kinds behind a Sync.
func busy(t *testing.T) *Disk {
	d := made(t, "a", "12345", "b", "xyz", "g", "gone")
	mustCut(t, d, "a", 2)
	mustAppend(t, d, "c", "new")
	mustDrop(t, d, "g")
	mustAppend(t, d, "b", "+-")
	mustDrop(t, d, "a")
	mustAppend(t, d, "e", "", "d", "far")
	mustCut(t, d, "b", 1)
	mustAppend(t, d, "f", "")
	mustDrop(t, d, "c")
	mustAppend(t, d, "b", "!")
	mustDrop(t, d, "d")
	return d
}

func TestCrashKeeps(t *testing.T) {
	for _, c := range []struct {
		kept int
		want fs
	}{
		{math.MinInt, fs{"a": "12", "b": "xyz", "g": "gone"}},
		{-1, fs{"a": "12", "b": "xyz", "g": "gone"}},
		{0, fs{"a": "12", "b": "xyz", "g": "gone"}},
		{1, fs{"a": "12", "b": "xyz", "c": "n", "g": "gone"}},
		{2, fs{"a": "12", "b": "xyz", "c": "ne", "g": "gone"}},
		{3, fs{"a": "12", "b": "xyz", "c": "new"}},
		{4, fs{"a": "12", "b": "xyz+", "c": "new"}},
		{5, fs{"b": "xyz+-", "c": "new", "e": ""}},
		{6, fs{"b": "xyz+-", "c": "new", "d": "f", "e": ""}},
		{7, fs{"b": "xyz+-", "c": "new", "d": "fa", "e": ""}},
		{8, fs{"b": "x", "d": "far", "e": "", "f": ""}},
		{9, fs{"b": "x!", "e": "", "f": ""}},
		{10, fs{"b": "x!", "e": "", "f": ""}},
		{math.MaxInt, fs{"b": "x!", "e": "", "f": ""}},
	} {
		checkCrash(t, busy(t), c.kept, -1, c.want)
	}
	d := busy(t)
	for _, kept := range []int{9, 0, 5, 0} {
		d.Crash(kept, kept)
	}
	checkCrash(t, d, 1, -1, fs{"a": "12", "b": "xyz", "c": "n", "g": "gone"})
}

func TestAFileIsMadeByOneByteAtLeast(t *testing.T) {
	d := New()
	mustAppend(t, d, "a", "12", "b", "3")
	checkCrash(t, d, 0, -1, fs{})
	checkCrash(t, d, 1, -1, fs{"a": "1"})
	checkCrash(t, d, 2, -1, fs{"a": "12"})
	checkCrash(t, d, 3, -1, fs{"a": "12", "b": "3"})
	d = made(t, "a", "old")
	mustDrop(t, d, "a")
	mustAppend(t, d, "a", "new")
	checkCrash(t, d, 0, -1, fs{})
	checkCrash(t, d, 1, -1, fs{"a": "n"})
	d = New()
	mustAppend(t, d, "a", "", "a", "x")
	checkCrash(t, d, 0, -1, fs{"a": ""})
	checkCrash(t, d, 1, -1, fs{"a": "x"})
}

func TestNothingBehindATornAppend(t *testing.T) {
	d := made(t, "a", "12345", "b", "x")
	mustAppend(t, d, "c", "new", "e", "")
	mustCut(t, d, "a", 1)
	mustDrop(t, d, "b")
	for kept := range 3 {
		want := fs{"a": "12345", "b": "x"}
		if kept > 0 {
			want["c"] = "new"[:kept]
		}
		checkCrash(t, d, kept, -1, want)
	}
	checkCrash(t, d, 3, -1, fs{"a": "1", "c": "new", "e": ""})
}

func TestDroppedBytesCountAsWell(t *testing.T) {
	d := New()
	mustAppend(t, d, "a", "123")
	mustDrop(t, d, "a")
	mustAppend(t, d, "b", "45")
	checkCrash(t, d, 2, -1, fs{"a": "12"})
	checkCrash(t, d, 3, -1, fs{})
	checkCrash(t, d, 4, -1, fs{"b": "4"})
	checkCrash(t, d, 5, -1, fs{"b": "45"})
}

func TestCrashTurnsABit(t *testing.T) {
	d := made(t, "bb", "yz", "a", "\x00\xff", "e", "", "b", "x")
	mustAppend(t, d, "f", "!")
	whole := fs{"a": "\x00\xff", "b": "x", "bb": "yz", "e": "", "f": "!"}
	for _, c := range []struct {
		bad     int
		name, b string
	}{
		{0, "a", "\x01\xff"},
		{1, "a", "\x00\xfe"},
		{2, "b", "y"},
		{3, "bb", "xz"},
		{4, "bb", "y{"},
		{5, "f", " "},
	} {
		want := maps.Clone(whole)
		want[c.name] = c.b
		checkCrash(t, d, 1, c.bad, want)
	}
	for _, bad := range []int{math.MinInt, -2, -1, 6, 7, math.MaxInt} {
		checkCrash(t, d, 1, bad, whole)
	}
	delete(whole, "f")
	checkCrash(t, d, 0, 5, whole)
	whole["bb"] = "y{"
	checkCrash(t, d, 0, 4, whole)
}

func TestATurnedBitIsCountedInWhatIsLeft(t *testing.T) {
	d := made(t, "a", "12345", "b", "x")
	mustCut(t, d, "a", 2)
	checkCrash(t, d, 0, 2, fs{"a": "12", "b": "y"})
	checkCrash(t, d, 0, 3, fs{"a": "12", "b": "x"})
	mustDrop(t, d, "a")
	checkCrash(t, d, 0, 0, fs{"b": "y"})
	checkCrash(t, d, 0, 1, fs{"b": "x"})
	mustAppend(t, d, "a", "0000")
	checkCrash(t, d, 3, 2, fs{"a": "001", "b": "x"})
	checkCrash(t, d, 3, 3, fs{"a": "000", "b": "y"})
}

func TestBothGoOnBehindACrash(t *testing.T) {
	d := made(t, "a", "12345", "b", "x")
	mustAppend(t, d, "a", "67")
	left := d.Crash(1, 0)
	twin := d.Crash(1, 0)
	mustAppend(t, left, "a", "left", "b", "left")
	mustCut(t, left, "b", 2)
	mustAppend(t, d, "a", "mine")
	mustDrop(t, d, "b")
	checkFiles(t, "what was left", left, fs{"a": "023456left", "b": "xl"}, 8)
	checkFiles(t, "the disk itself", d, fs{"a": "1234567mine"}, 6)
	checkFiles(t, "a twin", twin, fs{"a": "023456", "b": "x"}, 0)
	checkCrash(t, left, 0, -1, fs{"a": "023456", "b": "x"})
	checkCrash(t, left, 5, -1, fs{"a": "023456left", "b": "xl"})
	checkCrash(t, d, 3, -1, fs{"a": "1234567m", "b": "x"})
	checkCrash(t, twin, 9, -1, fs{"a": "023456", "b": "x"})
	left.Sync()
	checkCrash(t, left, 0, -1, fs{"a": "023456left", "b": "xl"})
	checkCrash(t, d, 0, -1, fs{"a": "12345", "b": "x"})
}

func TestWhatACrashLeavesCanBeCutAndDropped(t *testing.T) {
	left := made(t, "a", "12345", "b", "x").Crash(0, 1)
	mustCut(t, left, "a", 2)
	mustAppend(t, left, "a", "++")
	mustDrop(t, left, "b")
	checkFiles(t, "what was left", left, fs{"a": "13++"}, 2)
	checkCrash(t, left, 0, -1, fs{"a": "13", "b": "x"})
	checkCrash(t, left, 2, -1, fs{"a": "13++"})
}

func TestNilDisk(t *testing.T) {
	var d *Disk
	large := make([]byte, 65537)
	for _, name := range []string{"", "a", strings.Repeat("x", 41)} {
		if d.Append(name, nil) != api.ErrOff || d.Append(name, large) != api.ErrOff {
			t.Error("P5.1: Append of a nil disk")
		}
		for _, n := range []int{math.MinInt, -1, 0, 1, math.MaxInt} {
			checkErrno(t, "Cut of a nil disk", d.Cut(name, n), api.ErrOff)
		}
		checkErrno(t, "Drop of a nil disk", d.Drop(name), api.ErrOff)
		if b, e := d.Read(name); b != nil || e != api.ErrOff {
			t.Errorf("P5.1: Read of a nil disk: %v, %d", b, e)
		}
	}
	d.Sync()
	if d.List() != nil || d.Loose() != 0 {
		t.Error("P5.1: List or Loose of a nil disk")
	}
	for _, n := range []int{math.MinInt, -1, 0, 1, math.MaxInt} {
		left := d.Crash(n, n)
		if left == nil {
			t.Fatal("P5.1: Crash of a nil disk is nil")
		}
		mustAppend(t, left, "a", "x")
		checkFiles(t, "Crash of a nil disk", left, fs{"a": "x"}, 1)
	}
}

func TestZeroDisk(t *testing.T) {
	var d Disk
	d.Sync()
	checkErrno(t, "Cut of a zero disk", d.Cut("a", 0), api.ErrNone)
	checkErrno(t, "Drop of a zero disk", d.Drop("a"), api.ErrNone)
	checkFiles(t, "a zero disk", &d, fs{}, 0)
	checkCrash(t, &d, 1, 1, fs{})
	mustAppend(t, &d, "a", "x")
	checkFiles(t, "a zero disk", &d, fs{"a": "x"}, 1)
}

func TestWhatIsAppendedIsACopy(t *testing.T) {
	d := New()
	room := []byte("mine and spare")
	for range 2 {
		checkErrno(t, "Append", d.Append("m", room[:4]), api.OK)
	}
	if string(room) != "mine and spare" {
		t.Errorf("P0.3: Append changed its argument: %q", room)
	}
	copy(room, "MINE AND SPARE")
	checkFiles(t, "P0.3: the list that was handed in", d, fs{"m": "minemine"}, 8)
	checkCrash(t, d, 6, -1, fs{"m": "minemi"})
	mustAppend(t, d, "m", "!")
	mustCut(t, d, "m", 2)
	d.Crash(8, 0)
	if string(room) != "MINE AND SPARE" {
		t.Errorf("P0.3: a list that was handed in was changed later: %q", room)
	}
}

func TestWhatIsToldIsACopy(t *testing.T) {
	d := New()
	mustAppend(t, d, "a", "first", "b", "second")
	one, _ := d.Read("a")
	two, _ := d.Read("a")
	one = one[:cap(one)]
	for i := range one {
		one[i] = 'z'
	}
	if string(two) != "first" {
		t.Errorf("P0.3: two answers share memory: %q", two)
	}
	_ = append(two, "spare"...)
	mustAppend(t, d, "a", "+")
	if two = two[:cap(two)]; string(two[:5]) != "first" {
		t.Errorf("P0.3: an answer was changed later: %q", two)
	}
	names, again := d.List(), d.List()
	for i := range names[:cap(names)] {
		names[:cap(names)][i] = "z"
	}
	if !slices.Equal(again, []string{"a", "b"}) {
		t.Errorf("P0.3: two lists share memory: %q", again)
	}
	checkFiles(t, "answers written into", d, fs{"a": "first+", "b": "second"}, 12)
	checkCrash(t, d, 12, -1, fs{"a": "first+", "b": "second"})
}

func TestManySteps(t *testing.T) {
	for seed := range int64(150) {
		r := rand.New(rand.NewSource(seed))
		d, twin, want := New(), New(), &slow{}
		for range 60 {
			step(t, r, d, twin, want)
			checkFiles(t, "behind a step", d, want.all(), want.loose())
		}
		checkCrashes(t, d, want)
		if t.Failed() {
			t.Fatalf("seed %d", seed)
		}
	}
}

// step does one thing with two disks and with what they are held against.
func step(t *testing.T, r *rand.Rand, d, twin *Disk, want *slow) {
	name := []string{"a", "b", "ab", ""}[r.Intn(15)%4]
	var got, again, wanted api.Errno
	switch r.Intn(10) {
	case 0, 1, 2, 3:
		b := bytes.Repeat([]byte{byte('0' + r.Intn(10))}, r.Intn(5))
		got, again, wanted = d.Append(name, b), twin.Append(name, b), want.append(name, string(b))
	case 4, 5, 6:
		n := r.Intn(8) - 1
		got, again, wanted = d.Cut(name, n), twin.Cut(name, n), want.cut(name, n)
	case 7:
		got, again, wanted = d.Drop(name), twin.Drop(name), want.drop(name)
	case 8:
		kept, bad := r.Intn(12)-1, r.Intn(12)-1
		checkCrash(t, d, kept, bad, want.crash(kept, bad))
	case 9:
		if r.Intn(4) == 0 {
			d.Sync()
			twin.Sync()
			want.sync()
		}
	}
	if got != wanted || got != again {
		t.Errorf("P5.1, P0.5: %q: %d and %d, not %d", name, got, again, wanted)
	}
}

// checkCrashes asks for each crash that is another one, and for some beyond.
func checkCrashes(t *testing.T, d *Disk, want *slow) {
	t.Helper()
	for kept := -1; kept <= want.loose()+1; kept++ {
		sum := 0
		for _, b := range want.crash(kept, -1) {
			sum += len(b)
		}
		for bad := -1; bad <= sum+1; bad++ {
			checkCrash(t, d, kept, bad, want.crash(kept, bad))
		}
	}
}

func TestManyFilesAndSyncs(t *testing.T) {
	const many = 20000
	d := New()
	for i := range many {
		mustAppend(t, d, strconv.Itoa(i), "x")
		d.Sync()
	}
	for i := range many {
		mustAppend(t, d, strconv.Itoa(i%7), "yz")
		mustCut(t, d, strconv.Itoa(i%7), 1)
	}
	if len(d.List()) != many || d.Loose() != 2*many {
		t.Errorf("P5.1: many files: %d, Loose %d", len(d.List()), d.Loose())
	}
	left := d.Crash(2*many-1, many)
	if b, _ := left.Read(strconv.Itoa((many - 1) % 7)); len(left.List()) != many || string(b) != "xy" {
		t.Errorf("P5.1: many files, behind a crash: %d, %q", len(left.List()), b)
	}
	if b, _ := left.Read("9999"); string(b) != "y" {
		t.Errorf("P5.1: the last byte of many files is %q", b)
	}
}
