package gcm

import (
	"bytes"
	stdaes "crypto/aes"
	"crypto/cipher"
	"encoding/hex"
	"math/big"
	"sync"
	"testing"

	"mantilla/api"
)

// The sizes of texts and data: the edges of a block and of two, those of datagrams, and past 256 blocks, where the count's next byte is reached.
var sizes = []int{0, 1, 15, 16, 17, 31, 32, 33, 239, 240, 256, 300, 4080, 4100}

// sample is n bytes that differ from one n to the next.
func sample(n int) []byte {
	b := make([]byte, n)
	for i := range b {
		b[i] = byte(i*37 + i>>8 + 3*n + 1)
	}
	return b
}

// block is a block that differs from one n to the next.
func block(n int) [16]byte {
	var b [16]byte
	for i := range b {
		b[i] = byte((i+1)*(n+3) + n*n>>3 + i*i*7)
	}
	return b
}

// nonceOf is a nonce that differs from one n to the next.
func nonceOf(n int) [12]byte {
	b := block(n + 1000)
	return [12]byte(b[:12])
}

// power is x to the power of i, from 0 to 127.
func power(i int) [16]byte {
	var b [16]byte
	b[i/8] = 128 >> (i % 8)
	return b
}

// unhex is what a text of hex digits tells.
func unhex(t *testing.T, text string) []byte {
	t.Helper()
	b, err := hex.DecodeString(text)
	if err != nil {
		t.Fatal(err)
	}
	return b
}

// unhexBlock is the block that a text of hex digits tells.
func unhexBlock(t *testing.T, text string) [16]byte {
	t.Helper()
	return [16]byte(unhex(t, text))
}

// library is GCM as the library of Go has it.
func library(t *testing.T, key [16]byte) cipher.AEAD {
	t.Helper()
	c, err := stdaes.NewCipher(key[:])
	if err != nil {
		t.Fatal(err)
	}
	g, err := cipher.NewGCM(c)
	if err != nil {
		t.Fatal(err)
	}
	return g
}

// polynomial is the block as a number whose bit i is the factor of x to the power of i.
func polynomial(b [16]byte) *big.Int {
	p := new(big.Int)
	for i := range 128 {
		p.SetBit(p, i, uint(b[i/8]>>(7-i%8)&1))
	}
	return p
}

// ruledTimes is x times y by dividing the long product by the field's polynomial.
func ruledTimes(x, y [16]byte) [16]byte {
	a, b := polynomial(x), polynomial(y)
	long := new(big.Int)
	for i := range 128 {
		if a.Bit(i) == 1 {
			long.Xor(long, new(big.Int).Lsh(b, uint(i)))
		}
	}
	modulus := big.NewInt(1<<7 | 1<<2 | 1<<1 | 1)
	modulus.SetBit(modulus, 128, 1)
	for i := 254; i >= 128; i-- {
		if long.Bit(i) == 1 {
			long.Xor(long, new(big.Int).Lsh(modulus, uint(i-128)))
		}
	}
	var out [16]byte
	for i := range 128 {
		out[i/8] |= byte(long.Bit(i)) << (7 - i%8)
	}
	return out
}

// ruledHash is GHASH of the parts by the rule: filled, joined, and block by block.
func ruledHash(h [16]byte, parts ...[]byte) [16]byte {
	var joined []byte
	for _, part := range parts {
		joined = append(joined, part...)
		for len(joined)%16 != 0 {
			joined = append(joined, 0)
		}
	}
	var sum [16]byte
	for ; len(joined) > 0; joined = joined[16:] {
		sum = ruledTimes(crossedBlocks(sum, [16]byte(joined)), h)
	}
	return sum
}

// crossedBlocks is a crossed with b.
func crossedBlocks(a, b [16]byte) [16]byte {
	for i := range a {
		a[i] ^= b[i]
	}
	return a
}

func TestTimesOfKnownBlocks(t *testing.T) {
	known := []struct{ x, y, want string }{
		// McGrew and Viega's test case 2: the sums behind its first and its second block.
		{"0388dace60b6a392f328c2b971b2fe78", "66e94bd4ef8a2c3b884cfa59ca342b2e", "5e2ec746917062882c85b0685353deb7"},
		{"5e2ec746917062882c85b0685353de37", "66e94bd4ef8a2c3b884cfa59ca342b2e", "f38cbb1ad69223dcc3457ae5b6b0f885"},
		// x^127 times x, and times itself.
		{"00000000000000000000000000000001", "40000000000000000000000000000000", "e1000000000000000000000000000000"},
		{"00000000000000000000000000000001", "00000000000000000000000000000001", "e6080000000000000000000000000003"},
	}
	for _, k := range known {
		x, y := unhexBlock(t, k.x), unhexBlock(t, k.y)
		if got := Times(x, y); got != unhexBlock(t, k.want) {
			t.Errorf("P5.1: Times(%s, %s): %x, not %s", k.x, k.y, got, k.want)
		}
		if got := Times(y, x); got != unhexBlock(t, k.want) {
			t.Errorf("P5.1: Times(%s, %s): %x, not %s", k.y, k.x, got, k.want)
		}
	}
}

func TestTimesOfZeroAndOne(t *testing.T) {
	var zero [16]byte
	one := power(0)
	for n := range 200 {
		x := block(n)
		if n < 128 {
			x = power(n)
		}
		if Times(x, zero) != zero || Times(zero, x) != zero {
			t.Errorf("P5.1: Times of %x and 0: %x, %x", x, Times(x, zero), Times(zero, x))
		}
		if Times(x, one) != x || Times(one, x) != x {
			t.Errorf("P5.1: Times of %x and 1: %x, %x", x, Times(x, one), Times(one, x))
		}
	}
	if Times(zero, zero) != zero {
		t.Errorf("P5.1: Times of 0 and 0: %x", Times(zero, zero))
	}
}

func TestTimesOfEachTwoPowers(t *testing.T) {
	for i := range 128 {
		for j := range 128 {
			if got, want := Times(power(i), power(j)), ruledTimes(power(i), power(j)); got != want {
				t.Fatalf("P5.1: Times of x^%d and x^%d: %x, not %x", i, j, got, want)
			}
		}
	}
}

func TestTimesIsTheRules(t *testing.T) {
	for n := range 300 {
		x, y, z := block(n), block(5*n+1), block(3*n+7)
		got := Times(x, y)
		if want := ruledTimes(x, y); got != want {
			t.Fatalf("P5.1: Times(%x, %x): %x, not %x", x, y, got, want)
		}
		if Times(y, x) != got {
			t.Errorf("P5.1: Times(%x, %x) hangs on the order", x, y)
		}
		if Times(got, z) != Times(x, Times(y, z)) {
			t.Errorf("P5.1: Times of %x, %x, %x hangs on which two come first", x, y, z)
		}
		if Times(x, crossedBlocks(y, z)) != crossedBlocks(got, Times(x, z)) {
			t.Errorf("P5.1: Times of %x and a sum is not the sum of the two", x)
		}
	}
}

func TestHashOfKnownTexts(t *testing.T) {
	// McGrew and Viega's test cases 2 and 4: what the tag's mask is crossed with.
	known := []struct {
		h     string
		parts []string
		want  string
	}{
		{
			"66e94bd4ef8a2c3b884cfa59ca342b2e",
			[]string{"0388dace60b6a392f328c2b971b2fe78", "00000000000000000000000000000080"},
			"f38cbb1ad69223dcc3457ae5b6b0f885",
		},
		{
			"b83b533708bf535d0aa6e52980d53b78",
			[]string{
				"feedfacedeadbeeffeedfacedeadbeefabaddad2",
				"42831ec2217774244b7221b784d0d49ce3aa212f2c02a4e035c17e2329aca12e21d514b25466931c7d8f6a5aac84aa051ba30b396a0aac973d58e091",
				"00000000000000a000000000000001e0",
			},
			"698e57f70e6ecc7fd9463b7260a9ae5f",
		},
	}
	for _, k := range known {
		var parts [][]byte
		for _, part := range k.parts {
			parts = append(parts, unhex(t, part))
		}
		if got := Hash(unhexBlock(t, k.h), parts...); got != unhexBlock(t, k.want) {
			t.Errorf("P5.1: Hash of %s by %s: %x, not %s", k.parts, k.h, got, k.want)
		}
	}
}

func TestHashOfNothing(t *testing.T) {
	var zero [16]byte
	h := block(3)
	for _, parts := range [][][]byte{nil, {}, {nil}, {{}}, {nil, {}, nil}} {
		if got := Hash(h, parts...); got != zero {
			t.Errorf("P5.1: Hash of %d empty parts: %x", len(parts), got)
		}
	}
	if got := Hash(zero, sample(50), sample(3)); got != zero {
		t.Errorf("P5.1: Hash by 0: %x", got)
	}
}

func TestHashIsTheRules(t *testing.T) {
	for n := range 70 {
		h := block(n)
		if got, want := Hash(h, sample(n)), ruledHash(h, sample(n)); got != want {
			t.Errorf("P5.1: Hash of %d bytes: %x, not %x", n, got, want)
		}
		parts := [][]byte{sample(n), nil, sample(3*n%41 + 1), {}, sample(16), sample(n % 5)}
		if got, want := Hash(h, parts...), ruledHash(h, parts...); got != want {
			t.Errorf("P5.1: Hash of six parts, the %d-th: %x, not %x", n, got, want)
		}
	}
}

func TestHashPartsAreFilled(t *testing.T) {
	h, b := block(8), sample(64)
	whole := Hash(h, b)
	for at := 0; at <= len(b); at++ {
		got := Hash(h, b[:at], nil, b[at:])
		if same := at%16 == 0; (got == whole) != same {
			t.Errorf("P5.1: Hash cut at %d: the same as whole: %t", at, !same)
		}
	}
	for n := range 40 {
		zeros := make([]byte, (16-n%16)%16)
		if Hash(h, sample(n), b) != Hash(h, append(sample(n), zeros...), b) {
			t.Errorf("P5.1: Hash of a part of %d bytes is not that of zeros behind it", n)
		}
	}
	// No lengths are behind, but one more block of zeros counts.
	if Hash(h, b[:15], []byte{0}) == Hash(h, b[:15]) {
		t.Error("P5.1: Hash does not tell a block of zeros")
	}
	if Hash(h, b[:16], b[16:32]) == Hash(h, b[16:32], b[:16]) {
		t.Error("P5.1: Hash does not hang on the order of parts")
	}
}

func TestKnownSeals(t *testing.T) {
	const (
		key   = "feffe9928665731c6d6a8f9467308308"
		nonce = "cafebabefacedbaddecaf888"
		text  = "d9313225f88406e5a55909c5aff5269a86a7a9531534f7da2e4c303d8a318a721c3c0c95956809532fcf0e2449a6b525b16aedf5aa0de657ba637b391aafd255"
		cut   = 2 * 60
	)
	known := []struct{ key, nonce, text, data, want string }{
		// McGrew and Viega's test cases 1 to 4: nothing, text alone twice, and both.
		{"00000000000000000000000000000000", "000000000000000000000000", "", "", "58e2fccefa7e3061367f1d57a4e7455a"},
		{"00000000000000000000000000000000", "000000000000000000000000", "00000000000000000000000000000000", "",
			"0388dace60b6a392f328c2b971b2fe78" + "ab6e47d42cec13bdf53a67b21257bddf"},
		{key, nonce, text, "",
			"42831ec2217774244b7221b784d0d49ce3aa212f2c02a4e035c17e2329aca12e21d514b25466931c7d8f6a5aac84aa051ba30b396a0aac973d58e091473f5985" +
				"4d5c2af327cd64a62cf35abd2ba6fab4"},
		{key, nonce, text[:cut], "feedfacedeadbeeffeedfacedeadbeefabaddad2",
			"42831ec2217774244b7221b784d0d49ce3aa212f2c02a4e035c17e2329aca12e21d514b25466931c7d8f6a5aac84aa051ba30b396a0aac973d58e091" +
				"5bc94fbc3221a5db94fae95ae7121a47"},
		// NIST's gcmEncryptExtIV128: data alone.
		{"77be63708971c4e240d1cb79e8d77feb", "e0e00f19fed7ba0136a797f3", "", "7a43ec1d9c0a5a78a0b16533a6213cab", "209fcc8d3675ed938e9c7166709dd946"},
		// RFC 9001, A.4: data alone that ends within a block.
		{"be0c690b9f66575a1d766b54e368c84e", "461599d35d632bf2239825bb", "",
			"088394c8f03e515708" + "ff000000010008f067a5502a4262b5746f6b656e", "04a265ba2eff4d829058fb3f0f2496ba"},
	}
	for i, k := range known {
		key, nonce := unhexBlock(t, k.key), [12]byte(unhex(t, k.nonce))
		text, data, want := unhex(t, k.text), unhex(t, k.data), unhex(t, k.want)
		if got := Seal(key, nonce, text, data); !bytes.Equal(got, want) {
			t.Errorf("P5.1: Seal, the %d-th: %x, not %x", i, got, want)
		}
		if got, e := Open(key, nonce, want, data); e != api.OK || !bytes.Equal(got, text) {
			t.Errorf("P5.1: Open, the %d-th: %x, %d", i, got, e)
		}
	}
}

func TestSealsAreTheLibrarys(t *testing.T) {
	for i, n := range sizes {
		for j, m := range sizes {
			key, nonce := block(i), nonceOf(j)
			text, data := sample(n), sample(m)
			want := library(t, key).Seal(nil, nonce[:], text, data)
			got := Seal(key, nonce, text, data)
			if !bytes.Equal(got, want) {
				t.Errorf("P5.1: Seal of %d and %d bytes is another one", n, m)
			}
			if len(got) != n+api.TagLen {
				t.Errorf("P5.1: Seal of %d and %d bytes: %d bytes", n, m, len(got))
			}
			back, e := Open(key, nonce, want, data)
			if e != api.OK || !bytes.Equal(back, text) {
				t.Errorf("P5.1: Open of %d and %d bytes: %d bytes, %d", n, m, len(back), e)
			}
		}
	}
}

func TestSealOfAGreatText(t *testing.T) {
	// Past 65,536 blocks, where the count's third byte is reached.
	key, nonce := block(1), nonceOf(2)
	text, data := sample(1<<20+40), sample(1<<20+5)
	want := library(t, key).Seal(nil, nonce[:], text, data)
	if !bytes.Equal(Seal(key, nonce, text, data), want) {
		t.Error("P5.1: Seal of a great text is another one")
	}
	if back, e := Open(key, nonce, want, data); e != api.OK || !bytes.Equal(back, text) {
		t.Errorf("P5.1: Open of a great text: %d", e)
	}
}

func TestSealOfFullNonces(t *testing.T) {
	// What the count's bytes would spill into, and the other way round.
	for _, b := range []byte{0, 1, 127, 128, 255} {
		var key [16]byte
		var nonce [12]byte
		for i := range key {
			key[i] = 255 - b
		}
		for i := range nonce {
			nonce[i] = b
		}
		text := sample(5000)
		want := library(t, key).Seal(nil, nonce[:], text, nil)
		if !bytes.Equal(Seal(key, nonce, text, nil), want) {
			t.Errorf("P5.1: Seal with a nonce of %d alone is another one", b)
		}
	}
}

func TestOpenOfTooLittle(t *testing.T) {
	key, nonce := block(4), nonceOf(4)
	sealed := Seal(key, nonce, nil, nil)
	for n := range 16 {
		if got, e := Open(key, nonce, sealed[:n], nil); e != api.ErrShort || len(got) != 0 {
			t.Errorf("P5.1: Open of %d bytes: %x, %d", n, got, e)
		}
		if got, e := Open(key, nonce, make([]byte, n), sample(20)); e != api.ErrShort || len(got) != 0 {
			t.Errorf("P5.1: Open of %d zeros: %x, %d", n, got, e)
		}
	}
	if got, e := Open(key, nonce, nil, nil); e != api.ErrShort || len(got) != 0 {
		t.Errorf("P5.1: Open of nothing: %x, %d", got, e)
	}
	if got, e := Open(key, nonce, sealed, nil); e != api.OK || len(got) != 0 {
		t.Errorf("P5.1: Open of a tag alone: %x, %d", got, e)
	}
	if got, e := Open(key, nonce, make([]byte, 16), nil); e != api.ErrSeal || len(got) != 0 {
		t.Errorf("P5.1: Open of 16 zeros: %x, %d", got, e)
	}
}

// expectSealFault fails unless Open answers ErrSeal and nothing beside it.
func expectSealFault(t *testing.T, what string, key [16]byte, nonce [12]byte, sealed, data []byte) {
	t.Helper()
	if got, e := Open(key, nonce, sealed, data); e != api.ErrSeal || len(got) != 0 {
		t.Errorf("P5.1: Open, %s: %x, %d", what, got, e)
	}
}

func TestOpenOfTurnedBits(t *testing.T) {
	key, nonce, data := block(9), nonceOf(9), sample(21)
	for _, n := range []int{0, 1, 15, 16, 17, 40} {
		sealed := Seal(key, nonce, sample(n), data)
		for i := range 8 * len(sealed) {
			bad := bytes.Clone(sealed)
			bad[i/8] ^= 1 << (i % 8)
			expectSealFault(t, "a sealed bit turned", key, nonce, bad, data)
		}
		for i := range 8 * len(data) {
			bad := bytes.Clone(data)
			bad[i/8] ^= 1 << (i % 8)
			expectSealFault(t, "a bit of data turned", key, nonce, sealed, bad)
		}
		for i := range 8 * len(nonce) {
			bad := nonce
			bad[i/8] ^= 1 << (i % 8)
			expectSealFault(t, "a bit of the nonce turned", key, bad, sealed, data)
		}
		for i := range 8 * len(key) {
			bad := key
			bad[i/8] ^= 1 << (i % 8)
			expectSealFault(t, "a bit of the key turned", bad, nonce, sealed, data)
		}
	}
}

func TestOpenOfOtherLengths(t *testing.T) {
	key, nonce, data := block(11), nonceOf(11), sample(21)
	for _, n := range []int{0, 1, 15, 16, 17, 40} {
		sealed := Seal(key, nonce, sample(n), data)
		if n > 0 {
			expectSealFault(t, "its last byte gone", key, nonce, sealed[:n+15], data)
			expectSealFault(t, "its first byte gone", key, nonce, sealed[1:], data)
		}
		expectSealFault(t, "a zero behind", key, nonce, append(bytes.Clone(sealed), 0), data)
		expectSealFault(t, "a zero behind data", key, nonce, sealed, append(bytes.Clone(data), 0))
		expectSealFault(t, "data's last byte gone", key, nonce, sealed, data[:20])
		expectSealFault(t, "no data", key, nonce, sealed, nil)
		// Both turned by the same bit at one place of their halves: the difference must not be lost.
		twice := bytes.Clone(sealed)
		twice[n] ^= 1
		twice[n+8] ^= 1
		expectSealFault(t, "both halves of the tag turned", key, nonce, twice, data)
	}
	// Data and text may not change places, nor zeros go from one to the other.
	bare := Seal(key, nonce, nil, make([]byte, 16))
	expectSealFault(t, "data of fewer zeros", key, nonce, bare, make([]byte, 15))
	expectSealFault(t, "data as text", key, nonce, append(make([]byte, 16), bare...), nil)
}

func TestNothingIsChanged(t *testing.T) {
	for _, n := range []int{0, 1, 15, 16, 17, 300} {
		key, nonce := block(n), nonceOf(n)
		// Room behind, of bytes that must stay.
		textRoom, dataRoom := sample(n+40), sample(n+41)
		text, data := textRoom[:n], dataRoom[:n]
		sealedRoom := append(Seal(key, nonce, text, data), sample(40)...)
		wasSealed := bytes.Clone(sealedRoom)
		sealed := sealedRoom[:n+16]
		if _, e := Open(key, nonce, sealed, data); e != api.OK {
			t.Errorf("P5.1: Open of %d bytes: %d", n, e)
		}
		Open(key, nonce, sealed, dataRoom[:n+1])
		Hash(key, text, data, sealed)
		Times(key, block(1))
		if key != block(n) || nonce != nonceOf(n) {
			t.Errorf("R4: key or nonce, of %d bytes, is another one", n)
		}
		if !bytes.Equal(textRoom, sample(n+40)) || !bytes.Equal(dataRoom, sample(n+41)) {
			t.Errorf("R4: text or data, of %d bytes, is another one", n)
		}
		if !bytes.Equal(sealedRoom, wasSealed) {
			t.Errorf("R4: what is sealed, of %d bytes, is another one", n)
		}
	}
}

// overwrite turns all bytes of b and of its spare room.
func overwrite(b []byte) {
	b = b[:cap(b)]
	for i := range b {
		b[i] = ^b[i]
	}
}

func TestNothingIsShared(t *testing.T) {
	for _, n := range []int{0, 1, 16, 40} {
		key, nonce := block(n), nonceOf(n)
		text, data := sample(n), sample(n+3)
		one, two := Seal(key, nonce, text, data), Seal(key, nonce, text, data)
		was := bytes.Clone(one)
		overwrite(two)
		if !bytes.Equal(one, was) || !bytes.Equal(text, sample(n)) || !bytes.Equal(data, sample(n+3)) {
			t.Errorf("R4: a seal of %d bytes shares memory", n)
		}
		first, _ := Open(key, nonce, one, data)
		second, _ := Open(key, nonce, one, data)
		overwrite(second)
		if !bytes.Equal(first, text) || !bytes.Equal(one, was) || !bytes.Equal(data, sample(n+3)) {
			t.Errorf("R4: an opened text of %d bytes shares memory", n)
		}
		overwrite(one)
		if !bytes.Equal(first, text) || !bytes.Equal(Seal(key, nonce, text, data), was) {
			t.Errorf("R5: a seal of %d bytes is another one the second time", n)
		}
	}
}

func TestManyAtOneTime(t *testing.T) {
	text, data := sample(100), sample(30)
	var group sync.WaitGroup
	for n := range 8 {
		key, nonce := block(n), nonceOf(n)
		want := library(t, key).Seal(nil, nonce[:], text, data)
		group.Go(func() {
			for range 30 {
				sealed := Seal(key, nonce, text, data)
				back, e := Open(key, nonce, sealed, data)
				if !bytes.Equal(sealed, want) || e != api.OK || !bytes.Equal(back, text) {
					t.Errorf("R5: the seal of %x, beside others, is another one", key)
				}
			}
		})
	}
	group.Wait()
}
