// Package parts reads bytes part by part, for the layers that read what came.
package parts

import (
	"mantilla/api"
	"mantilla/varint"
)

// Rest is what is left to read, and what was wrong first. Behind a fault nothing is left, so that parts may be read on without asking after each.
type Rest struct {
	left []byte
	code api.Errno
}

// Of is all of b, to be read.
func Of(b []byte) Rest {
	return Rest{left: b}
}

// Len is how many bytes are left.
func (r *Rest) Len() int {
	return len(r.left)
}

// Code is what was wrong first, OK if nothing was.
func (r *Rest) Code() api.Errno {
	return r.code
}

// Fail keeps the code, unless there was a fault ahead of it.
func (r *Rest) Fail(code api.Errno) {
	if r.code == api.OK {
		r.code = code
	}
	r.left = nil
}

// Expect fails unless n bytes are left.
func (r *Rest) Expect(n uint64) {
	if n > uint64(len(r.left)) {
		r.Fail(api.ErrShort)
	}
}

// Bytes reads n bytes, into memory of their own.
func (r *Rest) Bytes(n uint64) []byte {
	r.Expect(n)
	if r.code != api.OK {
		return nil
	}
	read := append([]byte(nil), r.left[:n]...)
	r.left = r.left[n:]
	return read
}

// Whole reads a number of size bytes, the highest first.
func (r *Rest) Whole(size int) uint64 {
	n := uint64(0)
	for _, b := range r.Bytes(uint64(size)) {
		n = n<<8 | uint64(b)
	}
	return n
}

// Varint reads a number that tells its own length.
func (r *Rest) Varint() uint64 {
	n, size, code := varint.Get(r.left)
	if code != api.OK {
		r.Fail(code)
		return 0
	}
	r.left = r.left[size:]
	return n
}

// Zeros reads the zeros that are next, at most so many, and tells how many they were.
func (r *Rest) Zeros(most int) int {
	n := 0
	for n < most && n < len(r.left) && r.left[n] == 0 {
		n++
	}
	r.left = r.left[n:]
	return n
}
