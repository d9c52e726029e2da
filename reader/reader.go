// Package reader goes through bytes from the first one on, and keeps what was wrong first.
package reader

import (
	"wristband/api"
	"wristband/word"
)

// numberSize: how many bytes a number has.
const numberSize = 8

// Reader of the bytes that are left. It keeps what was wrong first, so that its callers need not ask at each step.
type Reader struct {
	Left  []byte
	Wrong api.Errno
}

// Keep what is wrong, unless something was wrong already.
func (r *Reader) Keep(e api.Errno) {
	if r.Wrong == api.OK {
		r.Wrong = e
	}
}

// Next bytes, so many as are asked for, as a part of those handed in; none, if one of them is missing, or if something was wrong.
func (r *Reader) Next(n int) []byte {
	if n > len(r.Left) {
		r.Keep(api.ErrShort)
	}
	if r.Wrong != api.OK {
		return nil
	}
	b := r.Left[:n]
	r.Left = r.Left[n:]
	return b
}

// One byte; 0, if something is wrong.
func (r *Reader) One() byte {
	b := r.Next(1)
	if len(b) == 0 {
		return 0
	}
	return b[0]
}

// Mark that all begins with.
func (r *Reader) Mark(mark byte) {
	if r.One() != mark {
		r.Keep(api.ErrForm)
	}
}

// Number of eight bytes; 0, if something is wrong.
func (r *Reader) Number() uint64 {
	// Bytes that are missing were kept as wrong already.
	v, _ := word.Get(r.Next(numberSize))
	return v
}

// End of all: nothing may be left.
func (r *Reader) End() {
	if len(r.Left) > 0 {
		r.Keep(api.ErrLong)
	}
}
