// Package varint: numbers of one to eight bytes. Its chapter: shared/doc/01-varint.md.
package varint

import "mantilla/api"

// A number of class k, from 0 to classes-1, has 1<<k bytes.
const classes = 4

// Len is the least count of bytes that n may have, 0 above MaxVar.
func Len(n uint64) int {
	k := class(n)
	if k == classes {
		return 0
	}
	return 1 << k
}

// Put lays n's least bytes behind b; it answers b alone above MaxVar.
func Put(b []byte, n uint64) []byte {
	size := Len(n)
	// New memory, since b's spare room may be somebody else's.
	out := make([]byte, len(b), len(b)+size)
	copy(out, b)
	if size == 0 {
		return out
	}
	laid := uint64(class(n))<<room(class(n)) | n
	for shift := 8 * (size - 1); shift >= 0; shift -= 8 {
		out = append(out, byte(laid>>shift))
	}
	return out
}

// Get reads the number at b's beginning, and tells of how many bytes it is.
func Get(b []byte) (uint64, int, api.Errno) {
	if len(b) == 0 {
		return 0, 0, api.ErrShort
	}
	size := 1 << (b[0] >> 6)
	if len(b) < size {
		return 0, 0, api.ErrShort
	}
	n := uint64(b[0] & 0x3f)
	for _, c := range b[1:size] {
		n = n<<8 | uint64(c)
	}
	return n, size, api.OK
}

// class is the least one that has room for n, classes above MaxVar.
func class(n uint64) int {
	k := 0
	for k < classes && n>>room(k) != 0 {
		k++
	}
	return k
}

// room is how many bits a number of class k may have: two of its bytes' bits tell the class.
func room(k int) int {
	return 8<<k - 2
}
