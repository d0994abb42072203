// Package num: numbers: see doc/01-num.md.
package num

import (
	"remembrancer/api"
)

const (
	// more is set on each byte of a number but its last.
	more = 128
	// perByte is how many of a number's bits a byte has.
	perByte = 7
	// maxBytes is how many bytes 64 bits may need.
	maxBytes = 10
	// lastMost is what the byte of number maxBytes may be at most: 9 bytes have 63 of the 64 bits.
	lastMost = 1
)

// Put: see the chapter.
func Put(b []byte, n uint64) []byte {
	return write(copyWithRoom(b, maxBytes), n)
}

// Get: see the chapter.
func Get(b []byte) (uint64, int, api.Errno) {
	var n uint64
	for i := range min(len(b), maxBytes) {
		if i == maxBytes-1 && b[i] > lastMost {
			return 0, 0, api.ErrForm
		}
		n |= uint64(b[i]%more) << (perByte * i)
		if b[i] >= more {
			continue
		}
		// A last byte of 0 adds nothing: the bytes ahead of it would have been enough.
		if i > 0 && b[i] == 0 {
			return 0, 0, api.ErrForm
		}
		return n, i + 1, api.OK
	}
	return 0, 0, api.ErrTorn
}

// PutInt: see the chapter.
func PutInt(b []byte, n int64) []byte {
	return Put(b, fold(n))
}

// GetInt: see the chapter.
func GetInt(b []byte) (int64, int, api.Errno) {
	n, took, e := Get(b)
	if e != api.OK {
		return 0, 0, e
	}
	return unfold(n), took, api.OK
}

// Text: see the chapter.
func Text(b []byte, s string) []byte {
	out := write(copyWithRoom(b, maxBytes+len(s)), uint64(len(s)))
	return append(out, s...)
}

// GetText: see the chapter.
func GetText(b []byte, most int) (string, int, api.Errno) {
	n, took, e := Get(b)
	if e != api.OK {
		return "", 0, e
	}
	if most < 0 || n > uint64(most) {
		return "", 0, api.ErrLarge
	}
	// Held against what is left, not added to took: the sum might wrap.
	if n > uint64(len(b)-took) {
		return "", 0, api.ErrTorn
	}
	end := took + int(n)
	return string(b[took:end]), end, api.OK
}

// copyWithRoom is there because an answer must share no memory with b, its spare room neither.
func copyWithRoom(b []byte, room int) []byte {
	out := make([]byte, len(b), len(b)+room)
	copy(out, b)
	return out
}

// write appends to out itself: only for memory that copyWithRoom made.
func write(out []byte, n uint64) []byte {
	for n >= more {
		out = append(out, byte(n%more)+more)
		n >>= perByte
	}
	return append(out, byte(n))
}

// fold makes -2n - 1 of an n below 0 from ^n, which is -n - 1: the least int64 has no -n.
func fold(n int64) uint64 {
	if n < 0 {
		return 2*uint64(^n) + 1
	}
	return 2 * uint64(n)
}

// unfold is fold's way back.
func unfold(n uint64) int64 {
	half := int64(n / 2)
	if n%2 == 1 {
		return ^half
	}
	return half
}
