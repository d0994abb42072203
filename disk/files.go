package disk

import (
	"maps"
	"slices"
)

// files are bytes by names. No two files share memory, nor do those of two disks: each is written into where it lies.
type files map[string][]byte

func (f files) add(name string, b []byte) {
	f[name] = append(f[name], b...)
}

func (f files) cut(name string, n int) {
	f[name] = f[name][:n]
}

func (f files) names() []string {
	return slices.Sorted(maps.Keys(f))
}

// redo does the changes, which f has not seen yet, as far as the appended bytes that are left reach.
func (f files) redo(changes []change, left []byte) {
	for _, c := range changes {
		switch c.kind {
		case appended:
			if c.n > len(left) {
				f.tear(c.name, left)
				return
			}
			f.add(c.name, left[:c.n])
			left = left[c.n:]
		case cut:
			f.cut(c.name, c.n)
		case dropped:
			delete(f, c.name)
		}
	}
}

// tear is not add: an append of which no byte is left makes no file.
func (f files) tear(name string, left []byte) {
	if len(left) > 0 {
		f.add(name, left)
	}
}

// turn finds no byte where bad is below 0 or beyond the last file, and leaves all as it is then.
func (f files) turn(bad int) {
	if bad < 0 {
		return
	}
	for _, name := range f.names() {
		b := f[name]
		if bad < len(b) {
			b[bad] ^= 1
			return
		}
		bad -= len(b)
	}
}

func (f files) copyOf() files {
	out := make(files, len(f))
	for name, b := range f {
		out[name] = copyOf(b)
	}
	return out
}

// copyOf is there because a caller may write into what it was told, spare room too.
func copyOf(b []byte) []byte {
	out := make([]byte, len(b))
	copy(out, b)
	return out
}
