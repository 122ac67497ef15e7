package varint

import (
	"bytes"
	"sync"
	"testing"

	"mantilla/api"
)

type laid struct {
	n     uint64
	bytes []byte
}

// The numbers of RFC 9000, A.1, small ones, and both sides of each edge.
func laidNumbers() []laid {
	return []laid{
		{0, []byte{0}},
		{1, []byte{1}},
		{37, []byte{0x25}},
		{1<<6 - 1, []byte{0x3f}},
		{1 << 6, []byte{0x40, 0x40}},
		{300, []byte{0x41, 0x2c}},
		{15293, []byte{0x7b, 0xbd}},
		{1<<14 - 1, []byte{0x7f, 0xff}},
		{1 << 14, []byte{0x80, 0, 0x40, 0}},
		{494878333, []byte{0x9d, 0x7f, 0x3e, 0x7d}},
		{1<<30 - 1, []byte{0xbf, 0xff, 0xff, 0xff}},
		{1 << 30, []byte{0xc0, 0, 0, 0, 0x40, 0, 0, 0}},
		{1<<32 + 5, []byte{0xc0, 0, 0, 1, 0, 0, 0, 5}},
		{151288809941952652, []byte{0xc2, 0x19, 0x7c, 0x5e, 0xff, 0x14, 0xe8, 0x8c}},
		{0x0102030405060708, []byte{0xc1, 2, 3, 4, 5, 6, 7, 8}},
		{1 << 61, []byte{0xe0, 0, 0, 0, 0, 0, 0, 0}},
		{api.MaxVar - 1, []byte{255, 255, 255, 255, 255, 255, 255, 254}},
		{api.MaxVar, []byte{255, 255, 255, 255, 255, 255, 255, 255}},
	}
}

func tooGreat() []uint64 {
	return []uint64{api.MaxVar + 1, api.MaxVar + 2, 3 << 62, 1 << 63, 1<<64 - 1}
}

func TestLenIsTheLeast(t *testing.T) {
	for _, c := range laidNumbers() {
		if got := Len(c.n); got != len(c.bytes) {
			t.Errorf("P1.1: Len(%d): %d, want %d", c.n, got, len(c.bytes))
		}
	}
	for _, n := range tooGreat() {
		if got := Len(n); got != 0 {
			t.Errorf("P1.1: Len(%d): %d, want 0", n, got)
		}
	}
}

func TestLenOfEachPowerOfTwo(t *testing.T) {
	for bit := range 64 {
		want := 0
		switch {
		case bit < 6:
			want = 1
		case bit < 14:
			want = 2
		case bit < 30:
			want = 4
		case bit < 62:
			want = 8
		}
		if got := Len(1 << bit); got != want {
			t.Errorf("P1.1: Len(1<<%d): %d, want %d", bit, got, want)
		}
	}
}

func TestPutLaysTheHighestFirst(t *testing.T) {
	for _, c := range laidNumbers() {
		if got := Put(nil, c.n); !bytes.Equal(got, c.bytes) {
			t.Errorf("P1.1: Put(nil, %d): %x, want %x", c.n, got, c.bytes)
		}
		if got := Put([]byte{9, 8}, c.n); !bytes.Equal(got, append([]byte{9, 8}, c.bytes...)) {
			t.Errorf("P1.1: Put behind 0908 of %d: %x", c.n, got)
		}
	}
}

func TestPutAboveMaxVarAnswersTheBytesAlone(t *testing.T) {
	for _, n := range tooGreat() {
		if got := Put(nil, n); len(got) != 0 {
			t.Errorf("P1.1: Put(nil, %d): %x", n, got)
		}
		if got := Put([]byte{5, 6}, n); !bytes.Equal(got, []byte{5, 6}) {
			t.Errorf("P1.1: Put(0506, %d): %x", n, got)
		}
	}
}

func TestPutLeavesSpareRoomAlone(t *testing.T) {
	for _, n := range []uint64{7, 300, 1 << 20, 1 << 40, api.MaxVar, api.MaxVar + 1} {
		whole := bytes.Repeat([]byte{0xaa}, 32)
		b := whole[:3]
		got := Put(b, n)
		if !bytes.Equal(whole, bytes.Repeat([]byte{0xaa}, 32)) {
			t.Errorf("R4: Put of %d changed what was handed in: %x", n, whole)
		}
		if len(got) != 3+Len(n) || !bytes.Equal(got[:3], whole[:3]) {
			t.Errorf("P1.1: Put of %d: %x", n, got)
		}
	}
}

func TestPutSharesNoMemoryBetweenAnswers(t *testing.T) {
	b := make([]byte, 1, 32)
	first := Put(b, 300)
	second := Put(b, 301)
	third := Put(b, api.MaxVar+1)
	third[0] = 7
	longer := Put(first, 1)
	longer[0] = 8
	if !bytes.Equal(first, []byte{0, 0x41, 0x2c}) || !bytes.Equal(second, []byte{0, 0x41, 0x2d}) || b[0] != 0 {
		t.Errorf("R4: answers share memory: %x, %x, %x", first, second, b)
	}
}

func TestGetReadsWhatWasLaid(t *testing.T) {
	for _, c := range laidNumbers() {
		for _, tail := range [][]byte{nil, {0}, {7, 7}, {255, 255, 255, 255, 255, 255, 255, 255}} {
			b := append(bytes.Clone(c.bytes), tail...)
			kept := bytes.Clone(b)
			n, k, e := Get(b)
			if n != c.n || k != len(c.bytes) || e != api.OK {
				t.Errorf("P1.1: Get(%x): %d, %d, %d", b, n, k, e)
			}
			if !bytes.Equal(b, kept) {
				t.Errorf("R4: Get changed %x to %x", kept, b)
			}
		}
	}
}

func TestGetOfTooFewBytes(t *testing.T) {
	for first := range 256 {
		size := []int{1, 2, 4, 8}[first>>6]
		b := bytes.Repeat([]byte{byte(first)}, 8)
		for k := range size {
			if n, m, e := Get(b[:k]); n != 0 || m != 0 || e != api.ErrShort {
				t.Errorf("P1.1: Get(%x): %d, %d, %d", b[:k], n, m, e)
			}
		}
		if _, m, e := Get(b[:size]); m != size || e != api.OK {
			t.Errorf("P1.1: Get(%x): %d bytes, %d", b[:size], m, e)
		}
	}
	if n, m, e := Get(nil); n != 0 || m != 0 || e != api.ErrShort {
		t.Errorf("P1.1: Get(nil): %d, %d, %d", n, m, e)
	}
}

func TestGetOfMoreBytesThanNeeded(t *testing.T) {
	for _, c := range []laid{
		{0, []byte{0x40, 0}},
		{37, []byte{0x40, 0x25}},
		{37, []byte{0x80, 0, 0, 0x25}},
		{37, []byte{0xc0, 0, 0, 0, 0, 0, 0, 0x25}},
		{15293, []byte{0x80, 0, 0x3b, 0xbd}},
		{15293, []byte{0xc0, 0, 0, 0, 0, 0, 0x3b, 0xbd}},
		{1<<30 - 1, []byte{0xc0, 0, 0, 0, 0x3f, 0xff, 0xff, 0xff}},
	} {
		if n, k, e := Get(append(c.bytes, 1)); n != c.n || k != len(c.bytes) || e != api.OK {
			t.Errorf("P1.1: Get(%x): %d, %d, %d", c.bytes, n, k, e)
		}
	}
}

func TestNumbersBehindOneAnother(t *testing.T) {
	var b []byte
	for _, c := range laidNumbers() {
		b = Put(b, c.n)
	}
	for _, c := range laidNumbers() {
		n, k, e := Get(b)
		if n != c.n || k != len(c.bytes) || e != api.OK {
			t.Fatalf("P1.1: Get(%x): %d, %d, %d, want %d", b, n, k, e, c.n)
		}
		b = b[k:]
	}
	if len(b) != 0 {
		t.Errorf("P1.1: %x is left", b)
	}
}

func TestCallsFromSeveralGoroutines(t *testing.T) {
	b := make([]byte, 1, 32)
	answers := make([][]byte, 64)
	var all sync.WaitGroup
	for i := range answers {
		all.Add(1)
		go func() {
			defer all.Done()
			answers[i] = Put(b, uint64(i)<<20)
		}()
	}
	all.Wait()
	for i, got := range answers {
		if n, _, e := Get(got[1:]); n != uint64(i)<<20 || e != api.OK {
			t.Errorf("R5: Put of %d: %x", i<<20, got)
		}
	}
}
