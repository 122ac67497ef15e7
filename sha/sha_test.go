package sha

import (
	"bytes"
	"crypto/sha256"
	"encoding/hex"
	"math"
	"slices"
	"strings"
	"sync"
	"testing"
)

// sample is n bytes that differ from one n to the next.
func sample(n int) []byte {
	b := make([]byte, n)
	for i := range b {
		b[i] = byte(i*37 + i>>8 + 3*n + 1)
	}
	return b
}

// The lengths at which blocks end, and at which the length no longer fits the last block.
func edges() []int {
	return []int{0, 1, 54, 55, 56, 57, 62, 63, 64, 65, 118, 119, 120, 121, 127, 128, 129, 183, 184, 191, 192, 193, 4095, 4096, 4097}
}

func TestSumOfKnownTexts(t *testing.T) {
	for _, c := range []struct{ text, want string }{
		{"", "e3b0c44298fc1c149afbf4c8996fb92427ae41e4649b934ca495991b7852b855"},
		{"abc", "ba7816bf8f01cfea414140de5dae2223b00361a396177a9cb410ff61f20015ad"},
		{"abcdbcdecdefdefgefghfghighijhijkijkljklmklmnlmnomnopnopq", "248d6a61d20638b8e5c026930c3e6039a33ce45964ff2167f6ecedd419db06c1"},
		{"abcdefghbcdefghicdefghijdefghijkefghijklfghijklmghijklmnhijklmnoijklmnopjklmnopqklmnopqrlmnopqrsmnopqrstnopqrstu", "cf5b16a778af8380036ce59e7b0492370b249b11e8f07a51afac45037afee9d1"},
		{strings.Repeat("a", 1000000), "cdc76e5c9914fb9281a1c7e284d73e67f1809a48a497200e046d39ccc7112cd0"},
	} {
		got := Sum([]byte(c.text))
		if hex.EncodeToString(got[:]) != c.want {
			t.Errorf("P2.1: Sum of %d bytes: %x, want %s", len(c.text), got, c.want)
		}
	}
}

func TestSumOfEachLength(t *testing.T) {
	for n := range 400 {
		if got, want := Sum(sample(n)), sha256.Sum256(sample(n)); got != want {
			t.Errorf("P2.1: Sum of %d bytes: %x, want %x", n, got, want)
		}
	}
	for _, n := range edges() {
		if got, want := Sum(sample(n)), sha256.Sum256(sample(n)); got != want {
			t.Errorf("P2.1: Sum of %d bytes: %x, want %x", n, got, want)
		}
	}
}

func TestSumOfNothing(t *testing.T) {
	want := sha256.Sum256(nil)
	for _, parts := range [][][]byte{nil, {}, {nil}, {{}}, {nil, {}, nil}} {
		if got := Sum(parts...); got != want {
			t.Errorf("P2.1: Sum of %d empty parts: %x", len(parts), got)
		}
	}
}

func TestSumOfPartsIsThatOfTheWhole(t *testing.T) {
	for _, n := range edges() {
		b := sample(n)
		want := sha256.Sum256(b)
		for _, at := range edges() {
			if at > n {
				break
			}
			if got := Sum(b[:at], b[at:]); got != want {
				t.Errorf("P2.1: Sum of %d and %d bytes: %x", at, n-at, got)
			}
			if got := Sum(nil, b[:at], []byte{}, b[at:], nil); got != want {
				t.Errorf("P2.1: Sum of %d and %d bytes and empty parts: %x", at, n-at, got)
			}
		}
		for _, size := range []int{1, 7, 63, 64, 65, 130} {
			if got := Sum(slices.Collect(slices.Chunk(b, size))...); got != want {
				t.Errorf("P2.1: Sum of %d bytes by %d: %x", n, size, got)
			}
		}
	}
	if Sum([]byte("ab"), []byte("c")) == Sum([]byte("c"), []byte("ab")) {
		t.Error("P2.1: the order of parts goes unseen")
	}
}

func TestStepOfKnownBlocks(t *testing.T) {
	first := [64]byte{'a', 'b', 'c', 128, 63: 24}
	want := [8]uint32{0xba7816bf, 0x8f01cfea, 0x414140de, 0x5dae2223, 0xb00361a3, 0x96177a9c, 0xb410ff61, 0xf20015ad}
	if got := Step(start, first); got != want {
		t.Errorf("P2.1: Step: %x, want %x", got, want)
	}
	var none [8]uint32
	if got := Step(none, first); got == want || got == none {
		t.Errorf("P2.1: Step from zeros: %x", got)
	}
}

func TestStepsOverTextAndPadAreTheSum(t *testing.T) {
	for _, n := range edges() {
		h := start
		for block := range slices.Chunk(append(sample(n), Pad(n)...), 64) {
			h = Step(h, [64]byte(block))
		}
		var got [32]byte
		for i, word := range h {
			for k := range 4 {
				got[4*i+k] = byte(word >> (24 - 8*k))
			}
		}
		if want := sha256.Sum256(sample(n)); got != want {
			t.Errorf("P2.1: steps over %d bytes: %x, want %x", n, got, want)
		}
	}
}

func TestPadOfKnownLengths(t *testing.T) {
	for _, c := range []struct {
		n, size int
		tail    []byte
	}{
		{0, 64, []byte{0, 0, 0, 0, 0, 0, 0, 0}},
		{1, 63, []byte{0, 0, 0, 0, 0, 0, 0, 8}},
		{3, 61, []byte{0, 0, 0, 0, 0, 0, 0, 24}},
		{54, 10, []byte{0, 0, 0, 0, 0, 0, 1, 0xb0}},
		{55, 9, []byte{0, 0, 0, 0, 0, 0, 1, 0xb8}},
		{56, 72, []byte{0, 0, 0, 0, 0, 0, 1, 0xc0}},
		{63, 65, []byte{0, 0, 0, 0, 0, 0, 1, 0xf8}},
		{64, 64, []byte{0, 0, 0, 0, 0, 0, 2, 0}},
		{65, 63, []byte{0, 0, 0, 0, 0, 0, 2, 8}},
		{119, 9, []byte{0, 0, 0, 0, 0, 0, 3, 0xb8}},
		{120, 72, []byte{0, 0, 0, 0, 0, 0, 3, 0xc0}},
		{0x0102030405060708, 56, []byte{8, 0x10, 0x18, 0x20, 0x28, 0x30, 0x38, 0x40}},
		{1 << 61, 64, []byte{0, 0, 0, 0, 0, 0, 0, 0}},
		{math.MaxInt - 8, 9, []byte{255, 255, 255, 255, 255, 255, 255, 0xb8}},
		{math.MaxInt, 65, []byte{255, 255, 255, 255, 255, 255, 255, 0xf8}},
	} {
		want := make([]byte, c.size)
		want[0] = 128
		copy(want[c.size-8:], c.tail)
		if got := Pad(c.n); !bytes.Equal(got, want) {
			t.Errorf("P2.1: Pad(%d): %x, want %x", c.n, got, want)
		}
	}
}

func TestPadFillsBlocks(t *testing.T) {
	for n := range 200 {
		got := Pad(n)
		zeros := len(got) - 9
		if (n+len(got))%64 != 0 || zeros < 0 || zeros > 63 || got[0] != 128 {
			t.Fatalf("P2.1: Pad(%d): %x", n, got)
		}
		want := append(make([]byte, zeros+6), byte(8*n>>8), byte(8*n))
		if !bytes.Equal(got[1:], want) {
			t.Errorf("P2.1: Pad(%d): %x", n, got)
		}
	}
}

func TestPadBelowZero(t *testing.T) {
	for _, n := range []int{-1, -8, -55, -64, -65, math.MinInt + 1, math.MinInt} {
		if got := Pad(n); len(got) != 0 {
			t.Errorf("P2.1: Pad(%d): %x", n, got)
		}
	}
}

func TestNothingHandedInIsChanged(t *testing.T) {
	for _, n := range edges() {
		whole := sample(n + 200)
		kept := bytes.Clone(whole)
		parts := [][]byte{whole[:n/2], whole[n/2 : n]}
		Sum(parts...)
		if !bytes.Equal(whole, kept) || len(parts[0]) != n/2 || len(parts[1]) != n-n/2 {
			t.Errorf("R4: Sum of %d bytes changed what was handed in", n)
		}
	}
}

func TestPadAnswersNewMemory(t *testing.T) {
	for _, n := range edges() {
		first := Pad(n)
		kept := bytes.Clone(first)
		second := Pad(n)
		for i := range second {
			second[i] = 0xee
		}
		_ = append(second[:0], bytes.Repeat([]byte{0xee}, 80)...)
		if !bytes.Equal(first, kept) || !bytes.Equal(Pad(n), kept) {
			t.Errorf("R4: answers of Pad(%d) share memory", n)
		}
	}
}

func TestCallsFromSeveralGoroutines(t *testing.T) {
	b := sample(1000)
	got := make([][32]byte, 64)
	var all sync.WaitGroup
	for i := range got {
		all.Add(1)
		go func() {
			defer all.Done()
			got[i] = Sum(b[:i], Pad(i), b[i:])
		}()
	}
	all.Wait()
	for i := range got {
		if want := sha256.Sum256(slices.Concat(b[:i], Pad(i), b[i:])); got[i] != want {
			t.Errorf("R5: Sum at one time with others, of %d: %x", i, got[i])
		}
	}
}
