package outgo

import "math/bits"

// wordBits is how many bytes one word marks.
const wordBits = 64

// marks are one bit a byte of the data, side by side in words, so that what is
// told of many bytes at once takes few steps.
type marks []uint64

// newMarks answers marks of n bytes, of which none is marked.
func newMarks(n int) marks {
	return make(marks, (n+wordBits-1)/wordBits)
}

// set marks the bytes from lo on, up to hi.
func (m marks) set(lo int, hi int) {
	for w := lo / wordBits; w*wordBits < hi; w++ {
		m[w] |= part(w, lo, hi)
	}
}

// setBut marks those of them that are not marked in other.
func (m marks) setBut(lo int, hi int, other marks) {
	for w := lo / wordBits; w*wordBits < hi; w++ {
		m[w] |= part(w, lo, hi) &^ other[w]
	}
}

// clear takes their marks away.
func (m marks) clear(lo int, hi int) {
	for w := lo / wordBits; w*wordBits < hi; w++ {
		m[w] &^= part(w, lo, hi)
	}
}

// count answers how many of them are marked.
func (m marks) count(lo int, hi int) int {
	sum := 0
	for w := lo / wordBits; w*wordBits < hi; w++ {
		sum += bits.OnesCount64(m[w] & part(w, lo, hi))
	}
	return sum
}

// first answers the first of them that is marked, or hi.
func (m marks) first(lo int, hi int) int {
	return m.find(lo, hi, 0)
}

// gap answers the first of them that is not marked, or hi.
func (m marks) gap(lo int, hi int) int {
	return m.find(lo, hi, ^uint64(0))
}

// find answers the first of them that is marked once its word is crossed with
// turn, or hi.
func (m marks) find(lo int, hi int, turn uint64) int {
	for w := lo / wordBits; w*wordBits < hi; w++ {
		if found := (m[w] ^ turn) & part(w, lo, hi); found != 0 {
			return w*wordBits + bits.TrailingZeros64(found)
		}
	}
	return hi
}

// part answers which bits of the w-th word, which begins ahead of hi, mark
// bytes from lo on, up to hi.
func part(w int, lo int, hi int) uint64 {
	from := max(lo-w*wordBits, 0)
	to := min(hi-w*wordBits, wordBits)
	return ^uint64(0) << from & (^uint64(0) >> (wordBits - to))
}
