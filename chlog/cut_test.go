package chlog

import (
	"math"
	"slices"
	"testing"

	"remembrancer/api"
)

// shapes are logs of several files: closed by size, by Close, not closed, begun by a number of two bytes, trimmed, without files.
func shapes() map[string]func(t *testing.T) *both {
	return map[string]func(t *testing.T) *both{
		"without files": func(t *testing.T) *both { return newBoth(t, 64, 5) },
		"one, open":     func(t *testing.T) *both { return newBoth(t, 64, 5).append(sets(3)...) },
		"one, closed":   func(t *testing.T) *both { return newBoth(t, 64, 1).append(sets(3)...).close() },
		"by size":       func(t *testing.T) *both { return newBoth(t, 40, 1).append(sets(4)...) },
		"several":       func(t *testing.T) *both { return newBoth(t, 40, 1).append(sets(11)...) },
		"several, by Close": func(t *testing.T) *both {
			return newBoth(t, 100, 3).append(sets(3)...).close().append(sets(2)...).close().append(sets(1)...).close()
		},
		"the last one open": func(t *testing.T) *both {
			return newBoth(t, 100, 3).append(sets(3)...).close().append(sets(2)...).close().append(sets(2)...)
		},
		"of all kinds": func(t *testing.T) *both { return newBoth(t, 60, 120).append(mixed(20)...).close().append(mixed(3)...) },
		"up to 10,000": func(t *testing.T) *both { return newBoth(t, 40, 9992).append(sets(9)...) },
		"trimmed":      func(t *testing.T) *both { return newBoth(t, 40, 1).append(sets(18)...).trim(9) },
		"opened": func(t *testing.T) *both {
			return newBoth(t, 100, 1).append(sets(3)...).close().append(sets(2)...).close().open(100)
		},
		"opened by a smaller size": func(t *testing.T) *both { return newBoth(t, 400, 1).append(sets(30)...).open(40) },
		"opened by a greater size": func(t *testing.T) *both { return newBoth(t, 40, 1).append(sets(12)...).open(400) },
		"a Head alone": func(t *testing.T) *both {
			return (&both{t: t, d: diskOf(t, map[string]string{"s00004": string(slowHead(4))})}).open(64)
		},
		"a Head behind": func(t *testing.T) *both {
			files := map[string]string{"s00001": string(slowSeg(1, sets(2)...)), "s00003": string(slowHead(3))}
			return (&both{t: t, d: diskOf(t, files)}).open(64)
		},
		"a Head behind a closed one": func(t *testing.T) *both {
			files := map[string]string{"s00001": string(slowSeg(1, sets(9)...)), "s00010": string(slowHead(10))}
			return (&both{t: t, d: diskOf(t, files)}).open(64)
		},
	}
}

// TestCutAtEveryNumber, and what the log goes on as; each also behind a Cut ahead of it.
func TestCutAtEveryNumber(t *testing.T) {
	for name, shape := range shapes() {
		t.Run(name, func(t *testing.T) {
			all := shape(t)
			for upto := all.s.first() - 3; upto <= all.s.next+2; upto++ {
				shape(t).cut(upto).append(mixed(7)...)
				shape(t).cut(upto).close().append(sets(1)...)
				shape(t).cut(upto).open(64).append(sets(1)...)
				shape(t).close().cut(upto).append(sets(1)...)
				shape(t).append(sets(2)...).cut(upto).cut(upto).append(sets(1)...).cut(upto).append(sets(4)...)
				shape(t).cut(upto + 1).cut(upto).append(sets(1)...)
			}
		})
	}
}

func TestCutAtFarNumbers(t *testing.T) {
	for name, shape := range shapes() {
		t.Run(name, func(t *testing.T) {
			for _, upto := range far() {
				shape(t).cut(upto)
			}
		})
	}
}

// TestCutAtTheEdges: the answers are written out.
func TestCutAtTheEdges(t *testing.T) {
	for _, c := range []struct {
		upto int
		want api.Errno
		next int
	}{
		{math.MinInt, api.ErrRange, 16}, {3, api.ErrRange, 16}, {4, api.OK, 5}, {5, api.OK, 6}, {8, api.OK, 9}, {9, api.OK, 10},
		{14, api.OK, 15}, {15, api.OK, 16}, {16, api.ErrRange, 16}, {17, api.ErrRange, 16}, {math.MaxInt, api.ErrRange, 16},
	} {
		b := newBoth(t, 40, 5).append(sets(11)...)
		if got := b.l.Cut(c.upto); got != c.want || b.l.Next() != c.next || b.l.First() != 5 {
			t.Errorf("P12.1: Cut to %d: %d, Next %d, not %d, %d", c.upto, got, b.l.Next(), c.want, c.next)
		}
	}
}

func checkSpans(t *testing.T, at string, l *Log, want ...api.Span) {
	t.Helper()
	if got := l.Spans(); !slices.Equal(got, want) {
		t.Errorf("P12.1: %s: %v, not %v", at, got, want)
	}
}

// TestCutAndClosedFiles: which files are closed behind a Cut, written out.
func TestCutAndClosedFiles(t *testing.T) {
	b := newBoth(t, 100, 1).append(sets(3)...).close().cut(3).append(del())
	checkSpans(t, "left whole, it stays closed", b.l, api.Span{From: 1, Upto: 3}, api.Span{From: 4, Upto: 4})
	b = newBoth(t, 100, 1).append(sets(3)...).close().append(sets(2)...).cut(3).append(del())
	checkSpans(t, "left whole with files behind it, it stays closed", b.l, api.Span{From: 1, Upto: 3}, api.Span{From: 4, Upto: 4})
	b = newBoth(t, 100, 1).append(sets(3)...).close().cut(2).append(del())
	checkSpans(t, "shortened, it is open", b.l, api.Span{From: 1, Upto: 3})
	b = newBoth(t, 100, 1).append(sets(3)...).close().append(sets(2)...).cut(2).append(del())
	checkSpans(t, "shortened with files behind it, it is open", b.l, api.Span{From: 1, Upto: 3})
	b = newBoth(t, 40, 1).append(sets(4)...).cut(4).append(del())
	checkSpans(t, "closed by size, left whole", b.l, api.Span{From: 1, Upto: 4}, api.Span{From: 5, Upto: 5})
	b = newBoth(t, 40, 1).append(sets(4)...).cut(3).append(del(), del())
	checkSpans(t, "closed by size, shortened", b.l, api.Span{From: 1, Upto: 4}, api.Span{From: 5, Upto: 5})
	b = newBoth(t, 400, 1).append(sets(9)...).open(40).cut(5).append(del())
	checkSpans(t, "shortened, with size bytes and more", b.l, api.Span{From: 1, Upto: 5}, api.Span{From: 6, Upto: 6})
	b = newBoth(t, 400, 1).append(sets(9)...).open(47).cut(4).append(del())
	checkSpans(t, "shortened, with just size bytes", b.l, api.Span{From: 1, Upto: 4}, api.Span{From: 5, Upto: 5})
	b = newBoth(t, 400, 1).append(sets(9)...).open(48).cut(4).append(del())
	checkSpans(t, "shortened, with size bytes less 1", b.l, api.Span{From: 1, Upto: 5})
	b = newBoth(t, 100, 1).append(sets(3)...).close().append(sets(2)...).open(100).cut(3).append(del())
	checkSpans(t, "Open made it open again", b.l, api.Span{From: 1, Upto: 4})
}

// TestTrimAtEveryNumber: the last file never goes, whatever is asked.
func TestTrimAtEveryNumber(t *testing.T) {
	for name, shape := range shapes() {
		t.Run(name, func(t *testing.T) {
			all := shape(t)
			for upto := all.s.first() - 3; upto <= all.s.next+2; upto++ {
				shape(t).trim(upto).trim(upto).append(sets(2)...).trim(upto)
				shape(t).trim(upto).cut(upto).trim(upto).open(64)
				shape(t).close().trim(upto).append(sets(1)...).trim(upto + 1)
			}
			for _, upto := range far() {
				shape(t).trim(upto).open(64).append(sets(3)...)
			}
		})
	}
}

// TestTrimCounts: how many go, and what is first then, written out.
func TestTrimCounts(t *testing.T) {
	for _, c := range []struct{ upto, gone, first int }{
		{math.MinInt, 0, 1}, {-1, 0, 1}, {0, 0, 1}, {1, 0, 1}, {3, 0, 1}, {4, 1, 5}, {5, 1, 5}, {7, 1, 5}, {8, 2, 9}, {11, 2, 9}, {12, 3, 13},
		{13, 3, 13}, {14, 3, 13}, {15, 3, 13}, {10000, 3, 13}, {math.MaxInt, 3, 13},
	} {
		b := newBoth(t, 40, 1).append(sets(14)...)
		if got := b.l.Trim(c.upto); got != c.gone || b.l.First() != c.first || b.l.Next() != 15 {
			t.Errorf("P12.1: Trim to %d: %d, First %d, not %d, %d", c.upto, got, b.l.First(), c.gone, c.first)
		}
	}
	b := newBoth(t, 40, 1).append(sets(4)...)
	if got := b.l.Trim(99); got != 0 || b.l.First() != 1 {
		t.Errorf("P12.1: Trim of the only file: %d", got)
	}
}

// TestNumbersBehindCutAndTrim: both leave the numbers of what stays, and those that come.
func TestNumbersBehindCutAndTrim(t *testing.T) {
	b := newBoth(t, 40, 1).append(sets(14)...).trim(8).cut(8)
	if b.l.First() != 9 || b.l.Next() != 9 || len(b.l.Spans()) != 0 || len(b.d.List()) != 0 {
		t.Errorf("P12.1: a log that is cut to First less 1: %d, %d, %v", b.l.First(), b.l.Next(), b.l.Spans())
	}
	b.cut(8).cut(7).cut(9).close().append(del(), del())
	if b.l.First() != 9 || b.l.Next() != 11 {
		t.Errorf("P12.1: and two more: %d, %d", b.l.First(), b.l.Next())
	}
}
