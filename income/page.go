package income

import "iter"

// pageSize is how many bytes one page holds: as many as a word marks.
const pageSize = 64

// page is so many neighbouring bytes of a stream; came marks those that came.
type page struct {
	came uint64
	data [pageSize]byte
}

// differs tells whether one of the bytes from at on came as another one.
func (p *page) differs(at int, data []byte) bool {
	for k, b := range data {
		if p.came>>(at+k)&1 == 1 && p.data[at+k] != b {
			return true
		}
	}
	return false
}

// keep lays the bytes from at on down, and marks them.
func (p *page) keep(at int, data []byte) {
	copy(p.data[at:], data)
	p.came |= ^uint64(0) >> (pageSize - len(data)) << at
}

// pieces goes through the places from lo on, up to hi, cut where a page ends:
// from where to where each piece goes.
func pieces(lo int, hi int) iter.Seq2[int, int] {
	return func(yield func(int, int) bool) {
		for lo < hi {
			to := min(hi, (lo/pageSize+1)*pageSize)
			if !yield(lo, to) {
				return
			}
			lo = to
		}
	}
}
