package parts

import (
	"bytes"
	"testing"

	"mantilla/api"
)

// expectRest says what is left, and what was wrong.
func expectRest(t *testing.T, r *Rest, size int, code api.Errno) {
	t.Helper()
	if r.Len() != size || r.Code() != code {
		t.Errorf("%d left, code %d, want %d, %d", r.Len(), r.Code(), size, code)
	}
}

func TestPartsAreReadOneBehindTheOther(t *testing.T) {
	r := Of([]byte{7, 8, 1, 2, 3, 0x41, 0x2c, 0, 0, 0, 5})
	if got := r.Bytes(2); !bytes.Equal(got, []byte{7, 8}) {
		t.Errorf("Bytes: %x", got)
	}
	if got := r.Whole(3); got != 0x010203 {
		t.Errorf("Whole: %x", got)
	}
	if got := r.Varint(); got != 300 {
		t.Errorf("Varint: %d", got)
	}
	if got := r.Zeros(2); got != 2 {
		t.Errorf("Zeros, at most 2: %d", got)
	}
	if got := r.Zeros(9); got != 1 {
		t.Errorf("Zeros, up to another byte: %d", got)
	}
	if got := r.Zeros(9); got != 0 {
		t.Errorf("Zeros, where there is none: %d", got)
	}
	expectRest(t, &r, 1, api.OK)
	r.Expect(1)
	if got := r.Bytes(0); len(got) != 0 {
		t.Errorf("Bytes(0): %x", got)
	}
	expectRest(t, &r, 1, api.OK)
}

func TestZerosUpToTheEnd(t *testing.T) {
	r := Of(make([]byte, 5))
	if got := r.Zeros(6); got != 5 {
		t.Errorf("Zeros: %d", got)
	}
	expectRest(t, &r, 0, api.OK)
}

func TestTooFewBytes(t *testing.T) {
	for i, read := range []func(r *Rest){
		func(r *Rest) { r.Expect(4) },
		func(r *Rest) { r.Expect(1<<64 - 1) },
		func(r *Rest) {
			if got := r.Bytes(4); got != nil {
				t.Errorf("Bytes(4) of 3: %x", got)
			}
		},
		func(r *Rest) {
			if got := r.Whole(4); got != 0 {
				t.Errorf("Whole(4) of 3: %x", got)
			}
		},
		func(r *Rest) {
			if got := r.Varint(); got != 0 {
				t.Errorf("Varint of 4 bytes, of 3: %x", got)
			}
		},
	} {
		r := Of([]byte{0x81, 2, 3})
		read(&r)
		if r.Len() != 0 || r.Code() != api.ErrShort {
			t.Errorf("the %d-th: %d left, code %d", i, r.Len(), r.Code())
		}
	}
}

func TestTheFirstFaultIsKept(t *testing.T) {
	r := Of([]byte{1, 0, 3})
	r.Fail(api.ErrForm)
	r.Fail(api.ErrKind)
	r.Expect(1)
	if b, n, v, z := r.Bytes(1), r.Whole(1), r.Varint(), r.Zeros(3); b != nil || n != 0 || v != 0 || z != 0 {
		t.Errorf("behind a fault: %x, %d, %d, %d", b, n, v, z)
	}
	if got := r.Bytes(0); got != nil {
		t.Errorf("Bytes(0) behind a fault: %x", got)
	}
	expectRest(t, &r, 0, api.ErrForm)
}

func TestBytesAreNewMemory(t *testing.T) {
	b := []byte{1, 2, 3, 4}
	r := Of(b)
	first := r.Bytes(2)
	first = append(first, 9)
	first[0] = 9
	if !bytes.Equal(b, []byte{1, 2, 3, 4}) {
		t.Errorf("R4: what was handed in is %x now", b)
	}
}
