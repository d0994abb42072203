package chlog

import (
	"strconv"
	"strings"

	"remembrancer/api"
	"remembrancer/disk"
	"remembrancer/seg"
)

const (
	// mark is what the names of all files of a log begin with.
	mark = "s"
	// digits is how many a name has behind the mark: so many that names rise as their numbers do.
	digits = 5
)

// file is one of a log's, as far as it would be dear to read it anew for each change.
type file struct {
	from  int  // the number of its first change
	bytes int  // how many it has
	shut  bool // closed by Close: its bytes don't tell that
}

func nameOf(from int) string {
	number := strconv.Itoa(from)
	return mark + strings.Repeat("0", max(digits-len(number), 0)) + number
}

// namesOn are those of a log, and whatever else begins as they do, rising.
func namesOn(d *disk.Disk) []string {
	var out []string
	for _, name := range d.List() {
		if strings.HasPrefix(name, mark) {
			out = append(out, name)
		}
	}
	return out
}

func dropAll(d *disk.Disk, names []string) {
	for _, name := range names {
		d.Drop(name)
	}
}

// take makes what is right of a file the log's last one, lets the rest of it go, and tells whether all of it was right.
func (l *Log) take(name string) bool {
	b, _ := l.d.Read(name)
	from, ms, n, e := seg.Get(b)
	right := e == api.OK
	// One whose Head is not right has no changes, whatever its name.
	if !l.goesOn(name, from) || (!right && len(ms) == 0) {
		l.d.Drop(name)
		return false
	}
	if !right {
		l.d.Cut(name, n)
	}
	l.files = append(l.files, file{from: from, bytes: n})
	l.next = from + len(ms)
	return right
}

// goesOn tells whether a file of that name, with a Head of that number, may be the log's next one.
func (l *Log) goesOn(name string, from int) bool {
	return name == nameOf(from) && (len(l.files) == 0 || from == l.next)
}

// write puts a change that may be, for which a number is left, behind all others. The disk refuses none: a file that is open is far below its bound.
func (l *Log) write(m api.Mut) {
	b, _ := seg.Put(l.next, m)
	if l.needsFile() {
		l.files = append(l.files, file{from: l.next})
	} else {
		b = b[len(seg.Head(l.next)):]
	}
	last := l.last()
	l.d.Append(nameOf(last.from), b)
	last.bytes += len(b)
	l.next++
}

func (l *Log) needsFile() bool {
	return len(l.files) == 0 || l.last().shut || l.last().bytes >= l.size
}

// read tells changes that are all the log's. A file that someone else has changed has none of them.
func (l *Log) read(from, upto int) ([]api.Mut, api.Errno) {
	out := make([]api.Mut, 0, upto-from+1)
	for _, s := range l.Spans() {
		if s.Upto < from || s.From > upto {
			continue
		}
		b, _ := l.d.Read(nameOf(s.From))
		ms, e := seg.Whole(b, s.From, s.Upto)
		if e != api.OK {
			return nil, api.ErrRange
		}
		out = append(out, ms[max(from, s.From)-s.From:min(upto, s.Upto)-s.From+1]...)
	}
	return out, api.OK
}

// uptoOf is the last number of the file of that place.
func (l *Log) uptoOf(i int) int {
	if i == len(l.files)-1 {
		return l.next - 1
	}
	return l.files[i+1].from - 1
}

// last is only for a log that has a file, and only until the files are others.
func (l *Log) last() *file {
	return &l.files[len(l.files)-1]
}

func (l *Log) dropFirst() {
	l.d.Drop(nameOf(l.files[0].from))
	l.files = l.files[1:]
}

func (l *Log) dropLast() {
	l.next = l.last().from
	l.d.Drop(nameOf(l.next))
	l.files = l.files[:len(l.files)-1]
}

// shortenLast leaves the last file's changes up to that number, of which there is one at least, and makes it open again.
func (l *Log) shortenLast(upto int) {
	last := l.last()
	ms, _ := l.read(last.from, upto)
	// Written anew to learn how many bytes they take: there is but one way to write them.
	b, _ := seg.Put(last.from, ms...)
	l.d.Cut(nameOf(last.from), len(b))
	last.bytes, last.shut = len(b), false
	l.next = upto + 1
}
