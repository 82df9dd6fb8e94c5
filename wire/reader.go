package wire

import (
	"slices"

	"copydesk/api"
)

// tenth is where the last byte that a short number may have stands: of 64 bits it has one.
const tenth = 9

// Reader goes over bytes, from the first one on.
type Reader struct {
	self *Reader   // by which one that New did not make is known, a copy too
	rest []byte    // what is not gone over
	err  api.Errno // the first one
}

// New answers a reader of b's bytes.
func New(b []byte) *Reader {
	r := &Reader{rest: slices.Clone(b)}
	r.self = r
	return r
}

func (r *Reader) made() bool {
	return r != nil && r.self == r
}

// Number answers the short number that stands next, and goes over it.
func (r *Reader) Number() uint64 {
	if r.Err() != api.OK {
		return 0
	}
	x, size, e := first(r.rest)
	if e != api.OK {
		r.err = e
		return 0
	}
	r.rest = r.rest[size:]
	return x
}

// Piece answers the bytes of the piece that stands next, and goes over it.
func (r *Reader) Piece() string {
	if r.Err() != api.OK {
		return ""
	}
	p, size, e := piece(r.rest)
	if e != api.OK {
		r.err = e
		return ""
	}
	r.rest = r.rest[size:]
	return p
}

// Left tells how many bytes are not gone over.
func (r *Reader) Left() int {
	if !r.made() {
		return 0
	}
	return len(r.rest)
}

// Err answers the reader's error, or OK.
func (r *Reader) Err() api.Errno {
	if !r.made() {
		return api.ErrNil
	}
	return r.err
}

// End answers the reader's error, or ErrBad if bytes are left. It asks only: the reader's error stays what it was.
func (r *Reader) End() api.Errno {
	if e := r.Err(); e != api.OK {
		return e
	}
	if len(r.rest) > 0 {
		return api.ErrBad
	}
	return api.OK
}

// first reads the short number that b begins with, and tells how many bytes it has; with an error neither means anything.
func first(b []byte) (uint64, int, api.Errno) {
	var x uint64
	size, e := 0, api.ErrMore
read:
	for i, c := range b {
		x |= uint64(c&^more) << (7 * i)
		switch {
		case i == tenth && c > 1: // a byte too many, or a bit
			e = api.ErrBad
			break read
		case i > 0 && c == 0: // it would be the same without that byte
			e = api.ErrBad
			break read
		case c < more:
			size, e = i+1, api.OK
			break read
		}
	}
	return x, size, e
}

// piece reads the piece that b begins with, and tells how many bytes it has, its length's too.
func piece(b []byte) (string, int, api.Errno) {
	n, size, e := first(b)
	if e != api.OK {
		return "", 0, e
	}
	if n > api.MaxPiece {
		return "", 0, api.ErrLong
	}
	end := size + int(n)
	if end > len(b) {
		return "", 0, api.ErrMore
	}
	return string(b[size:end]), end, api.OK
}
