// Package tlv is layer 1: numbers and texts as bytes, each in one way.
package tlv

import "math/bits"

// maxBytes is how many bytes the greatest number needs.
const maxBytes = 8

// Num is n as bytes: how many it needs, and these, the highest first.
func Num(n uint64) []byte {
	size := (bits.Len64(n) + 7) / 8
	b := make([]byte, 1+size)
	b[0] = byte(size)
	for i := size; i > 0; i-- {
		b[i] = byte(n)
		n >>= 8
	}
	return b
}

// Int is n as bytes: Num of it, or of it and 2^64, if it is below 0.
func Int(n int) []byte {
	return Num(uint64(n))
}

// Text is b, with how many bytes it has ahead of it.
func Text(b []byte) []byte {
	return All(Num(uint64(len(b))), b)
}

// All is all parts, one behind the other.
func All(parts ...[]byte) []byte {
	size := 0
	for _, p := range parts {
		size += len(p)
	}
	b := make([]byte, 0, size)
	for _, p := range parts {
		b = append(b, p...)
	}
	return b
}

// Reader goes over bytes from the front on.
type Reader struct {
	rest []byte // what was not gone by
	good bool   // it did not fail; false also where New did not make it
}

// New makes a reader of b's bytes. It has bytes of its own, so that a later change of b does not change what is read.
func New(b []byte) *Reader {
	return &Reader{rest: clone(b), good: true}
}

// Num is the number whose bytes stand next.
func (r *Reader) Num() uint64 {
	head := r.pass(1)
	if len(head) == 0 {
		return 0
	}
	if head[0] > maxBytes {
		r.fail()
		return 0
	}
	digits := r.pass(int(head[0]))
	if len(digits) > 0 && digits[0] == 0 { // Num never makes a 0 ahead: the same number would have two ways
		r.fail()
		return 0
	}
	n := uint64(0)
	for _, d := range digits {
		n = n<<8 | uint64(d)
	}
	return n
}

// Int is the number that stands next, as an int; one above 2^63 - 1 is below 0.
func (r *Reader) Int() int {
	return int(r.Num())
}

// Count is the number that stands next, if it is not above most.
func (r *Reader) Count(most int) int {
	n := r.Num()
	if most < 0 || n > uint64(most) {
		r.fail()
		return 0
	}
	return int(n)
}

// Text is the text that stands next, if it has no more than most bytes.
func (r *Reader) Text(most int) []byte {
	return r.Take(r.Count(most))
}

// Take is the next n bytes.
func (r *Reader) Take(n int) []byte {
	return clone(r.pass(n))
}

// pass goes by the next n bytes. What it answers is the reader's own, and not to be handed out.
func (r *Reader) pass(n int) []byte {
	if n < 0 || n > r.Left() {
		r.fail()
		return nil
	}
	if n == 0 { // a nil reader has no bytes to cut
		return nil
	}
	b := r.rest[:n]
	r.rest = r.rest[n:]
	return b
}

// Ok is whether the reader did not fail.
func (r *Reader) Ok() bool {
	return r != nil && r.good
}

// Left is how many bytes were not gone by.
func (r *Reader) Left() int {
	if !r.Ok() {
		return 0
	}
	return len(r.rest)
}

// fail lets go of the bytes too: nothing is read behind a failure.
func (r *Reader) fail() {
	if r != nil {
		*r = Reader{}
	}
}

func clone(b []byte) []byte {
	return append([]byte(nil), b...)
}
