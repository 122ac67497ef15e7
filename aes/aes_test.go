package aes

import (
	stdaes "crypto/aes"
	"encoding/hex"
	"math/bits"
	"sync"
	"testing"
)

// unhex is the block that a text of hex digits tells.
func unhex(t *testing.T, text string) [16]byte {
	t.Helper()
	b, err := hex.DecodeString(text)
	if err != nil || len(b) != 16 {
		t.Fatalf("no block: %q", text)
	}
	return [16]byte(b)
}

// sample is a block that differs from one n to the next.
func sample(n int) [16]byte {
	var b [16]byte
	for i := range b {
		b[i] = byte((i+1)*(n+3) + n*n>>3 + i*i*7)
	}
	return b
}

// filled is a block of nothing but b.
func filled(b byte) [16]byte {
	var block [16]byte
	for i := range block {
		block[i] = b
	}
	return block
}

// libraryBlock is the block as the library of Go enciphers it.
func libraryBlock(t *testing.T, key [16]byte, in [16]byte) [16]byte {
	t.Helper()
	c, err := stdaes.NewCipher(key[:])
	if err != nil {
		t.Fatal(err)
	}
	var out [16]byte
	c.Encrypt(out[:], in[:])
	return out
}

// product is a times b in the field, by dividing the long product by 0x11b.
func product(a, b byte) byte {
	var long uint
	for i := range 8 {
		if b>>i&1 == 1 {
			long ^= uint(a) << i
		}
	}
	for i := 14; i >= 8; i-- {
		if long>>i&1 == 1 {
			long ^= 0x11b << (i - 8)
		}
	}
	return byte(long)
}

// ruledBox is the box's byte by its rule: the inverse (0 of 0), then the turned sum (FIPS 197, 5.1.1).
func ruledBox(b byte) byte {
	var inverse byte
	for c := range 256 {
		if product(b, byte(c)) == 1 {
			inverse = byte(c)
		}
	}
	out := inverse ^ 0x63
	for k := 1; k <= 4; k++ {
		out ^= bits.RotateLeft8(inverse, k)
	}
	return out
}

// ruledKeys are the round keys by words of 32 bits (FIPS 197, 5.2).
func ruledKeys(key [16]byte) [11][16]byte {
	var words [44]uint32
	extra := byte(1)
	for i := range words {
		if i < 4 {
			words[i] = uint32(key[4*i])<<24 | uint32(key[4*i+1])<<16 | uint32(key[4*i+2])<<8 | uint32(key[4*i+3])
			continue
		}
		word := words[i-1]
		if i%4 == 0 {
			word = bits.RotateLeft32(word, 8)
			word = uint32(ruledBox(byte(word>>24)))<<24 | uint32(ruledBox(byte(word>>16)))<<16 |
				uint32(ruledBox(byte(word>>8)))<<8 | uint32(ruledBox(byte(word)))
			word ^= uint32(extra) << 24
			extra = product(extra, 2)
		}
		words[i] = words[i-4] ^ word
	}
	var out [11][16]byte
	for i, word := range words {
		for j := range 4 {
			out[i/4][4*(i%4)+j] = byte(word >> (24 - 8*j))
		}
	}
	return out
}

func TestBoxOfEveryByte(t *testing.T) {
	seen := map[byte]int{}
	for n := range 256 {
		b := byte(n)
		got := Box(b)
		if want := ruledBox(b); got != want {
			t.Errorf("P4.1: Box(%d): %d, not %d", b, got, want)
		}
		seen[got]++
	}
	if len(seen) != 256 {
		t.Errorf("P4.1: Box tells %d bytes, not 256", len(seen))
	}
}

func TestBoxOfKnownBytes(t *testing.T) {
	// FIPS 197, 5.1.1, table 4: the corners, the two bytes beside the middle, and its example of 0x53.
	known := map[byte]byte{
		0: 99, 0x0f: 0x76, 0xf0: 0x8c, 255: 0x16, 127: 0xd2, 128: 0xcd, 0x53: 0xed, 0x52: 0, 1: 0x7c, 0x7d: 0xff,
	}
	for b, want := range known {
		if got := Box(b); got != want {
			t.Errorf("P4.1: Box(%d): %d, not %d", b, got, want)
		}
	}
}

func TestDoubleOfEveryByte(t *testing.T) {
	for n := range 256 {
		b := byte(n)
		if got, want := Double(b), product(b, 2); got != want {
			t.Errorf("P4.1: Double(%d): %d, not %d", b, got, want)
		}
	}
}

func TestDoubleOfKnownBytes(t *testing.T) {
	// FIPS 197, 4.2, has the row from 0x57 on.
	known := map[byte]byte{
		0: 0, 1: 2, 127: 254, 128: 0x1b, 255: 0xe5, 0x57: 0xae, 0xae: 0x47, 0x47: 0x8e, 0x8e: 0x07,
	}
	for b, want := range known {
		if got := Double(b); got != want {
			t.Errorf("P4.1: Double(%d): %d, not %d", b, got, want)
		}
	}
}

func TestKnownKeys(t *testing.T) {
	// The first is of FIPS 197, A.1, the second of its C.1; the others are of keys of one byte alone.
	known := [][11]string{
		{
			"2b7e151628aed2a6abf7158809cf4f3c", "a0fafe1788542cb123a339392a6c7605",
			"f2c295f27a96b9435935807a7359f67f", "3d80477d4716fe3e1e237e446d7a883b",
			"ef44a541a8525b7fb671253bdb0bad00", "d4d1c6f87c839d87caf2b8bc11f915bc",
			"6d88a37a110b3efddbf98641ca0093fd", "4e54f70e5f5fc9f384a64fb24ea6dc4f",
			"ead27321b58dbad2312bf5607f8d292f", "ac7766f319fadc2128d12941575c006e",
			"d014f9a8c9ee2589e13f0cc8b6630ca6",
		},
		{
			"000102030405060708090a0b0c0d0e0f", "d6aa74fdd2af72fadaa678f1d6ab76fe",
			"b692cf0b643dbdf1be9bc5006830b3fe", "b6ff744ed2c2c9bf6c590cbf0469bf41",
			"47f7f7bc95353e03f96c32bcfd058dfd", "3caaa3e8a99f9deb50f3af57adf622aa",
			"5e390f7df7a69296a7553dc10aa31f6b", "14f9701ae35fe28c440adf4d4ea9c026",
			"47438735a41c65b9e016baf4aebf7ad2", "549932d1f08557681093ed9cbe2c974e",
			"13111d7fe3944a17f307a78b4d2b30c5",
		},
		{
			"00000000000000000000000000000000", "62636363626363636263636362636363",
			"9b9898c9f9fbfbaa9b9898c9f9fbfbaa", "90973450696ccffaf2f457330b0fac99",
			"ee06da7b876a1581759e42b27e91ee2b", "7f2e2b88f8443e098dda7cbbf34b9290",
			"ec614b851425758c99ff09376ab49ba7", "217517873550620bacaf6b3cc61bf09b",
			"0ef903333ba9613897060a04511dfa9f", "b1d4d8e28a7db9da1d7bb3de4c664941",
			"b4ef5bcb3e92e21123e951cf6f8f188e",
		},
		{
			"ffffffffffffffffffffffffffffffff", "e8e9e9e917161616e8e9e9e917161616",
			"adaeae19bab8b80f525151e6454747f0", "090e2277b3b69a78e1e7cb9ea4a08c6e",
			"e16abd3e52dc2746b33becd8179b60b6", "e5baf3ceb766d488045d385013c658e6",
			"71d07db3c6b6a93bc2eb916bd12dc98d", "e90d208d2fbb89b6ed5018dd3c7dd150",
			"96337366b988fad054d8e20d68a5335d", "8bf03f233278c5f366a027fe0e0514a3",
			"d60a3588e472f07b82d2d7858cd7c326",
		},
	}
	for _, rounds := range known {
		keys := Keys(unhex(t, rounds[0]))
		for i, round := range rounds {
			if want := unhex(t, round); keys[i] != want {
				t.Errorf("P4.1: Keys(%s)[%d]: %x, not %s", rounds[0], i, keys[i], round)
			}
		}
	}
}

func TestKeysAreTheRules(t *testing.T) {
	for n := range 60 {
		key := sample(n)
		got, want := Keys(key), ruledKeys(key)
		for i := range want {
			if got[i] != want[i] {
				t.Errorf("P4.1: Keys(%x)[%d]: %x, not %x", key, i, got[i], want[i])
			}
		}
	}
}

func TestKnownBlocks(t *testing.T) {
	known := []struct{ key, in, out string }{
		// FIPS 197, B and C.1.
		{"2b7e151628aed2a6abf7158809cf4f3c", "3243f6a8885a308d313198a2e0370734", "3925841d02dc09fbdc118597196a0b32"},
		{"000102030405060708090a0b0c0d0e0f", "00112233445566778899aabbccddeeff", "69c4e0d86a7b0430d8cdb78070b4c55a"},
		// SP 800-38A, F.1.1.
		{"2b7e151628aed2a6abf7158809cf4f3c", "6bc1bee22e409f96e93d7e117393172a", "3ad77bb40d7a3660a89ecaf32466ef97"},
		{"2b7e151628aed2a6abf7158809cf4f3c", "ae2d8a571e03ac9c9eb76fac45af8e51", "f5d3d58503b9699de785895a96fdbaaf"},
		// Nothing but zeros, nothing but 255.
		{"00000000000000000000000000000000", "00000000000000000000000000000000", "66e94bd4ef8a2c3b884cfa59ca342b2e"},
		{"ffffffffffffffffffffffffffffffff", "ffffffffffffffffffffffffffffffff", "bcbf217cb280cf30b2517052193ab979"},
		{"00000000000000000000000000000000", "ffffffffffffffffffffffffffffffff", "3f5b8cc9ea855a0afa7347d23e8d664e"},
		{"ffffffffffffffffffffffffffffffff", "00000000000000000000000000000000", "a1f6258c877d5fcd8964484538bfc92c"},
	}
	for _, k := range known {
		if got, want := Block(unhex(t, k.key), unhex(t, k.in)), unhex(t, k.out); got != want {
			t.Errorf("P4.1: Block(%s, %s): %x, not %s", k.key, k.in, got, k.out)
		}
	}
}

func TestBlocksAreTheLibrarys(t *testing.T) {
	for n := range 500 {
		key, in := sample(n), sample(7*n+1)
		if got, want := Block(key, in), libraryBlock(t, key, in); got != want {
			t.Fatalf("P4.1: Block(%x, %x): %x, not %x", key, in, got, want)
		}
	}
	for n := range 256 {
		key, in := filled(byte(n)), filled(byte(255-n))
		if got, want := Block(key, in), libraryBlock(t, key, in); got != want {
			t.Fatalf("P4.1: Block(%x, %x): %x, not %x", key, in, got, want)
		}
	}
}

func TestBlocksOfOneBit(t *testing.T) {
	for i := range 128 {
		var one, none [16]byte
		one[i/8] = 128 >> (i % 8)
		if got, want := Block(one, none), libraryBlock(t, one, none); got != want {
			t.Errorf("P4.1: Block of the key %x: %x, not %x", one, got, want)
		}
		if got, want := Block(none, one), libraryBlock(t, none, one); got != want {
			t.Errorf("P4.1: Block of the text %x: %x, not %x", one, got, want)
		}
	}
}

func TestNothingIsChangedOrShared(t *testing.T) {
	key, in := sample(5), sample(6)
	first, block := Keys(key), Block(key, in)
	if key != sample(5) || in != sample(6) {
		t.Errorf("R4: what was given is another one: %x, %x", key, in)
	}
	other := first
	first[0][0]++
	first[10][15]++
	if Keys(key) != other || key != sample(5) {
		t.Error("R4: the round keys share memory")
	}
	if Block(key, in) != block {
		t.Error("R5: Block answers something else the second time")
	}
}

func TestManyAtOneTime(t *testing.T) {
	var group sync.WaitGroup
	for n := range 8 {
		key, in := sample(n), sample(n+100)
		block, keys := libraryBlock(t, key, in), ruledKeys(key)
		group.Go(func() {
			for range 100 {
				if Block(key, in) != block || Keys(key) != keys {
					t.Errorf("R5: Block or Keys of %x, beside others, is another one", key)
				}
			}
		})
	}
	group.Wait()
}
