package chlog

import (
	"fmt"
	"math/rand"
	"slices"
	"testing"

	"remembrancer/api"
)

// checkCrash crashes the disk at each choice of bytes: Open has all up to synced, and of what is behind it some first ones.
func checkCrash(t *testing.T, b *both, synced int) {
	t.Helper()
	all := b.s.changes(b.s.first(), b.s.next-1)
	least := synced - b.s.first()
	most := -1
	for kept := -1; kept <= b.d.Loose()+1; kept++ {
		left := b.d.Crash(kept, -1)
		l := Open(left, b.s.size)
		got, e := l.Read(l.First(), l.Next()-1)
		if e != api.OK || len(got) < least || len(got) > len(all) || !slices.Equal(got, all[:len(got)]) {
			t.Fatalf("G1: with %d bytes kept: %d changes, %d, of %d; %d were synced", kept, len(got), e, len(all), least)
		}
		if len(got) > 0 && l.First() != b.s.first() {
			t.Fatalf("G1: with %d bytes kept: First %d, not %d", kept, l.First(), b.s.first())
		}
		if len(got) < most {
			t.Fatalf("G1: with %d bytes kept there are less changes than with one byte less", kept)
		}
		most = len(got)
	}
	if most != len(all) {
		t.Errorf("G1: with all bytes kept: %d changes of %d", most, len(all))
	}
	if l := Open(b.d, b.s.size); l.Next() != b.s.next && most > 0 {
		t.Errorf("G1: without a crash: Next %d, not %d", l.Next(), b.s.next)
	}
}

func TestCrashOfAppended(t *testing.T) {
	for _, size := range []int{32, 40, 100, 4096} {
		for _, next := range []int{1, 125, 9950} {
			for _, n := range []int{0, 1, 3, 4, 9} {
				b := newBoth(t, size, next).append(mixed(n)...)
				b.d.Sync()
				b.append(mixed(5)...).close().append(sets(3)...).append(sets(4)...).close().close()
				checkCrash(t, b, next+n)
			}
		}
	}
}

// TestCrashOfSyncedAndClosed: the Sync stands behind a Close, so that the next file begins behind it.
func TestCrashOfSyncedAndClosed(t *testing.T) {
	for _, n := range []int{1, 3, 8} {
		b := newBoth(t, 64, 5).append(mixed(n)...).close()
		b.d.Sync()
		checkCrash(t, b, 5+n)
		b.append(mixed(4)...)
		checkCrash(t, b, 5+n)
		b.d.Sync()
		checkCrash(t, b, 9+n)
	}
}

func TestCrashBehindCutAndTrim(t *testing.T) {
	for upto := 5; upto <= 16; upto++ {
		b := newBoth(t, 40, 1).append(sets(16)...).trim(6).cut(upto)
		b.d.Sync()
		b.append(mixed(6)...)
		checkCrash(t, b, upto+1)
	}
}

// TestCrashBehindCrash: what Open left of a crash is there behind the next one, too, though nobody synced it.
func TestCrashBehindCrash(t *testing.T) {
	b := newBoth(t, 40, 1).append(mixed(7)...)
	b.d.Sync()
	b.append(mixed(7)...)
	for kept := range b.d.Loose() + 1 {
		again := &both{t: t, d: b.d.Crash(kept, -1)}
		again.open(40)
		checkCrash(t, again, again.s.next)
		next := again.s.next
		again.append(sets(3)...).close().append(del())
		checkCrash(t, again, next)
	}
}

// TestAgainstSlow: any calls, one behind the other, beside the slow log.
func TestAgainstSlow(t *testing.T) {
	r := rand.New(rand.NewSource(12))
	seen := map[string]int{}
	for range 1500 {
		next := []int{1, 1 + r.Intn(300), 9970 + r.Intn(32)}[r.Intn(3)]
		b := newBoth(t, 32+r.Intn(1+r.Intn(100)), next)
		for range r.Intn(25) {
			step(b, r, seen)
		}
	}
	for _, name := range []string{"append", "wrong", "close", "cut", "trim", "read", "open", "torn"} {
		if seen[name] < 300 {
			t.Errorf("of %s there are only %d", name, seen[name])
		}
	}
}

func step(b *both, r *rand.Rand, seen map[string]int) {
	b.t.Helper()
	somewhere := b.s.first() - 2 + r.Intn(b.s.next-b.s.first()+4)
	name := []string{"append", "append", "append", "wrong", "close", "close", "cut", "trim", "read", "open", "torn"}[r.Intn(11)]
	seen[name]++
	switch name {
	case "append":
		b.append(mixed(7 + r.Intn(9))[7*r.Intn(2):]...)
	case "wrong":
		b.append(slices.Insert(sets(3), r.Intn(4), wrongOnes()[r.Intn(len(wrongOnes()))])...)
	case "close":
		b.close()
	case "cut":
		b.cut(somewhere)
	case "trim":
		b.trim(somewhere)
	case "read":
		checkRead(b.t, "any", b.l, b.s, somewhere, somewhere-2+r.Intn(12))
	case "open":
		b.open(32 + r.Intn(100))
	case "torn":
		if from := b.s.newest(); from > 0 {
			name := fmt.Sprintf("s%05d", from)
			b.d.Cut(name, r.Intn(len(b.s.files()[name])))
		}
		b.open(32 + r.Intn(100))
	}
}
