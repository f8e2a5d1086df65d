// Package wire is layer 1: numbers and strings with a length in bytes (shared/doc/01-wire.md).
package wire

import (
	"bytes"
	"slices"
)

// maxWidth is the greatest number of bytes that a number is written in.
const maxWidth = 8

// Reader reads numbers and strings from a copy of bytes. A nil Reader acts as one on which a read has failed.
type Reader struct {
	rest []byte // not read yet; empty after a read that has failed
	bad  bool
}

// New returns a reader of a copy of b.
func New(b []byte) *Reader {
	return &Reader{rest: bytes.Clone(b)}
}

// Left returns the number of bytes that were not read yet.
func (r *Reader) Left() int {
	if r == nil {
		return 0
	}
	return len(r.rest)
}

// Bad reports whether a read has failed.
func (r *Reader) Bad() bool {
	return r == nil || r.bad
}

// Done reports whether no read has failed and no bytes are left.
func (r *Reader) Done() bool {
	return !r.Bad() && r.Left() == 0
}

// Number reads a number of k bytes, the highest one first.
func (r *Reader) Number(k int) uint64 {
	if !isWidth(k) {
		r.fail()
		return 0
	}
	var x uint64
	for _, digit := range r.next(k) {
		x = x<<8 | uint64(digit)
	}
	return x
}

// Take reads the next n bytes.
func (r *Reader) Take(n int) []byte {
	return bytes.Clone(r.next(n))
}

// String reads a string with a length of k bytes.
func (r *Reader) String(k int) []byte {
	n := r.Number(k)
	// A length of 8 bytes may exceed every int, so it is compared before it is converted.
	if n > uint64(r.Left()) {
		r.fail()
		return nil
	}
	return r.Take(int(n))
}

// next moves past n bytes and returns them, or fails. The part is the reader's own memory, but its capacity ends with it, so that nobody who appends to it reaches what was not read yet.
func (r *Reader) next(n int) []byte {
	if r.Bad() || n < 0 || n > len(r.rest) {
		r.fail()
		return nil
	}
	part := r.rest[:n:n]
	r.rest = r.rest[n:]
	return part
}

// fail makes this read and all further ones fail.
func (r *Reader) fail() {
	if r == nil {
		return
	}
	r.rest = nil
	r.bad = true
}

// Number returns the number x in k bytes, the highest one first.
func Number(k int, x uint64) ([]byte, bool) {
	// For 8 bytes all bits are shifted out, so every x fits.
	if !isWidth(k) || x>>(8*k) != 0 {
		return nil, false
	}
	b := make([]byte, k)
	for i := range b {
		b[k-1-i] = byte(x >> (8 * i))
	}
	return b, true
}

// String returns the string b with a length of k bytes.
func String(k int, b []byte) ([]byte, bool) {
	head, ok := Number(k, uint64(len(b)))
	if !ok {
		return nil, false
	}
	return Join(head, b), true
}

// Join returns the bytes of all parts in order.
func Join(parts ...[]byte) []byte {
	return slices.Concat(parts...)
}

// isWidth reports whether a number can have k bytes.
func isWidth(k int) bool {
	return k >= 1 && k <= maxWidth
}
