// Package word is layer 1: words and their bytes. See shared/doc/01-word.md.
package word

import (
	"math/bits"

	"wristband/api"
)

const (
	wordSize   = 4
	numberSize = 8
)

// Rot turns a word to the right.
func Rot(x uint32, n int) uint32 {
	// The least int is its own negative, but it is 0 modulo 32 as well.
	return bits.RotateLeft32(x, -n)
}

// Words of bytes.
func Words(b []byte) []uint32 {
	l := make([]uint32, 0, len(b)/wordSize)
	for ; len(b) >= wordSize; b = b[wordSize:] {
		l = append(l, uint32(join(b[:wordSize])))
	}
	return l
}

// Bytes of words.
func Bytes(l []uint32) []byte {
	b := make([]byte, 0, wordSize*len(l))
	for _, w := range l {
		b = append(b, byte(w>>24), byte(w>>16), byte(w>>8), byte(w))
	}
	return b
}

// Put a number.
func Put(v uint64) []byte {
	b := make([]byte, numberSize)
	for i := range b {
		// The first byte is the highest one, so the shift falls as i rises.
		b[i] = byte(v >> (8 * (numberSize - 1 - i)))
	}
	return b
}

// Get a number.
func Get(b []byte) (uint64, api.Errno) {
	if len(b) != numberSize {
		return 0, api.ErrArg
	}
	return join(b), api.OK
}

// Least bytes of a number.
func Least(v uint64) []byte {
	b := Put(v)
	for len(b) > 0 && b[0] == 0 {
		b = b[1:]
	}
	return b
}

// FromLeast bytes.
func FromLeast(b []byte) (uint64, api.Errno) {
	if len(b) > numberSize {
		return 0, api.ErrLong
	}
	// A leading 0 would give a number a second spelling.
	if len(b) > 0 && b[0] == 0 {
		return 0, api.ErrForm
	}
	return join(b), api.OK
}

// join reads at most eight bytes, the highest first; callers see to the length.
func join(b []byte) uint64 {
	v := uint64(0)
	for _, c := range b {
		v = v<<8 | uint64(c)
	}
	return v
}
