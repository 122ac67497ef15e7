package hkdf

import (
	"bytes"
	"crypto/hmac"
	"crypto/sha256"
	"encoding/hex"
	"math"
	"slices"
	"strings"
	"sync"
	"testing"
)

// sample is n bytes that differ from one n to the next.
func sample(n int) []byte {
	b := make([]byte, n)
	for i := range b {
		b[i] = byte(i*37 + i>>8 + 3*n + 1)
	}
	return b
}

// unhex is what a text of hex digits tells.
func unhex(t *testing.T, text string) []byte {
	t.Helper()
	b, err := hex.DecodeString(text)
	if err != nil {
		t.Fatal(err)
	}
	return b
}

// libraryMAC is HMAC as the library of Go has it.
func libraryMAC(key []byte, parts ...[]byte) [32]byte {
	m := hmac.New(sha256.New, key)
	m.Write(slices.Concat(parts...))
	return [32]byte(m.Sum(nil))
}

// libraryExpand is RFC 5869, 2.3, over the library's HMAC.
func libraryExpand(prk []byte, info []byte, n int) []byte {
	var out, last []byte
	for i := 1; len(out) < n; i++ {
		mac := libraryMAC(prk, last, info, []byte{byte(i)})
		last = mac[:]
		out = append(out, last...)
	}
	return out[:n]
}

// libraryLabel is RFC 8446, 7.1, over the same.
func libraryLabel(secret []byte, label string, context []byte, n int) []byte {
	info := append([]byte{byte(n >> 8), byte(n), byte(6 + len(label))}, "tls13 "+label...)
	info = append(append(info, byte(len(context))), context...)
	return libraryExpand(secret, info, n)
}

func TestMACOfKnownTexts(t *testing.T) {
	// RFC 4231: test cases 1 to 4, 6 and 7.
	long := strings.Repeat("aa", 131)
	for _, c := range []struct{ key, text, want string }{
		{strings.Repeat("0b", 20), hex.EncodeToString([]byte("Hi There")), "b0344c61d8db38535ca8afceaf0bf12b881dc200c9833da726e9376c2e32cff7"},
		{hex.EncodeToString([]byte("Jefe")), hex.EncodeToString([]byte("what do ya want for nothing?")), "5bdcc146bf60754e6a042426089575c75a003f089d2739839dec58b964ec3843"},
		{strings.Repeat("aa", 20), strings.Repeat("dd", 50), "773ea91e36800e46854db8ebd09181a72959098b3ef8c122d9635514ced565fe"},
		{"0102030405060708090a0b0c0d0e0f10111213141516171819", strings.Repeat("cd", 50), "82558a389a443c0ea4cc819899f2083a85f0faa3e578f8077a2e3ff46729665b"},
		{long, hex.EncodeToString([]byte("Test Using Larger Than Block-Size Key - Hash Key First")), "60e431591ee0b67f0d8a26aacbf5b77f8e0bc6213728c5140546040f0ee37f54"},
		{long, hex.EncodeToString([]byte("This is a test using a larger than block-size key and a larger than block-size data. The key needs to be hashed before being used by the HMAC algorithm.")), "9b09ffa71b942fcb27635fbcd5b0e944bfdc63644f0713938a7f51535c3a35e2"},
	} {
		got := MAC(unhex(t, c.key), unhex(t, c.text))
		if hex.EncodeToString(got[:]) != c.want {
			t.Errorf("P3.1: MAC of key %s: %x, want %s", c.key, got, c.want)
		}
	}
}

func TestMACOfEachKeyLength(t *testing.T) {
	for n := range 140 {
		for _, m := range []int{0, 1, 55, 56, 63, 64, 65, 200} {
			if got, want := MAC(sample(n), sample(m)), libraryMAC(sample(n), sample(m)); got != want {
				t.Errorf("P3.1: MAC of a key of %d, a text of %d: %x, want %x", n, m, got, want)
			}
		}
	}
}

func TestMACKeysAreFilledOrDigested(t *testing.T) {
	text := []byte("text")
	for _, n := range []int{0, 1, 32, 63} {
		filled := append(sample(n), make([]byte, 64-n)...)
		if MAC(sample(n), text) != MAC(filled, text) {
			t.Errorf("P3.1: a key of %d bytes and zeros behind differ", n)
		}
	}
	for _, n := range []int{65, 66, 128, 1000} {
		short := sha256.Sum256(sample(n))
		if MAC(sample(n), text) != MAC(short[:], text) {
			t.Errorf("P3.1: a key of %d bytes and its digest differ", n)
		}
	}
	short := sha256.Sum256(sample(64))
	if MAC(sample(64), text) == MAC(short[:], text) {
		t.Error("P3.1: a key of 64 bytes is digested")
	}
}

func TestMACOfParts(t *testing.T) {
	for _, n := range []int{0, 1, 63, 64, 65, 130} {
		key := sample(n)
		none := libraryMAC(key)
		for _, parts := range [][][]byte{nil, {}, {nil}, {{}}, {nil, {}, nil}} {
			if got := MAC(key, parts...); got != none {
				t.Errorf("P3.1: MAC of %d empty parts: %x, want %x", len(parts), got, none)
			}
		}
		b := sample(150)
		want := libraryMAC(key, b)
		for _, at := range []int{0, 1, 63, 64, 65, 149, 150} {
			if got := MAC(key, b[:at], b[at:]); got != want {
				t.Errorf("P3.1: MAC of parts of %d and %d: %x, want %x", at, 150-at, got, want)
			}
			if got := MAC(key, nil, b[:at], []byte{}, b[at:], nil); got != want {
				t.Errorf("P3.1: MAC of parts of %d and %d and empty ones: %x", at, 150-at, got)
			}
		}
		if got := MAC(key, slices.Collect(slices.Chunk(b, 1))...); got != want {
			t.Errorf("P3.1: MAC of 150 parts: %x", got)
		}
	}
	if MAC(nil, []byte("ab"), []byte("c")) == MAC(nil, []byte("c"), []byte("ab")) {
		t.Error("P3.1: the order of parts goes unseen")
	}
}

func TestExtractAndExpandOfKnownTexts(t *testing.T) {
	// RFC 5869: test cases 1 to 3.
	steps := func(first, last byte) string {
		var b []byte
		for i := int(first); i <= int(last); i++ {
			b = append(b, byte(i))
		}
		return hex.EncodeToString(b)
	}
	for _, c := range []struct {
		secret, salt, info string
		prk, want          string
	}{
		{strings.Repeat("0b", 22), steps(0, 12), steps(0xf0, 0xf9),
			"077709362c2e32df0ddc3f0dc47bba6390b6c73bb50f9c3122ec844ad7c2b3e5",
			"3cb25f25faacd57a90434f64d0362f2a2d2d0a90cf1a5a4c5db02d56ecc4c5bf34007208d5b887185865"},
		{steps(0, 0x4f), steps(0x60, 0xaf), steps(0xb0, 0xff),
			"06a6b88c5853361a06104c9ceb35b45cef760014904671014a193f40c15fc244",
			"b11e398dc80327a1c8e7f78c596a49344f012eda2d4efad8a050cc4c19afa97c59045a99cac7827271cb41c65e590e09da3275600c2f09b8367793a9aca3db71cc30c58179ec3e87c14c01d5c1f3434f1d87"},
		{strings.Repeat("0b", 22), "", "",
			"19ef24a32c717b167f33a91d6f648bdf96596776afdb6377ac434c1c293ccb04",
			"8da4e775a563c18f715f802a063c5a31b8a11f5c5ee1879ec3454e5f3c738d2d9d201395faa4b61a96c8"},
	} {
		prk := Extract(unhex(t, c.salt), unhex(t, c.secret))
		if hex.EncodeToString(prk[:]) != c.prk {
			t.Errorf("P3.1: Extract: %x, want %s", prk, c.prk)
		}
		got := Expand(prk[:], unhex(t, c.info), len(c.want)/2)
		if hex.EncodeToString(got) != c.want {
			t.Errorf("P3.1: Expand: %x, want %s", got, c.want)
		}
	}
}

func TestExtractIsMACBySalt(t *testing.T) {
	for _, n := range []int{0, 1, 32, 63, 64, 65, 100} {
		for _, m := range []int{0, 1, 32, 64, 100} {
			if got, want := Extract(sample(n), sample(m)), libraryMAC(sample(n), sample(m)); got != want {
				t.Errorf("P3.1: Extract of a salt of %d, a secret of %d: %x, want %x", n, m, got, want)
			}
		}
	}
	if Extract(nil, sample(5)) != Extract(make([]byte, 32), sample(5)) || Extract(nil, nil) != Extract([]byte{}, []byte{}) {
		t.Error("P3.1: Extract without a salt")
	}
}

func TestExpandOfEachLength(t *testing.T) {
	for _, n := range []int{0, 1, 31, 32, 33, 63, 64, 65, 95, 96, 97, 4095, 4096, 4097, 8127, 8128, 8129, 8159, 8160} {
		for _, c := range []struct{ prk, info int }{{32, 0}, {32, 10}, {0, 0}, {1, 200}, {64, 63}, {65, 64}} {
			got := Expand(sample(c.prk), sample(c.info), n)
			if want := libraryExpand(sample(c.prk), sample(c.info), n); !bytes.Equal(got, want) {
				t.Errorf("P3.1: Expand of a key of %d, an info of %d, to %d: %d bytes", c.prk, c.info, n, len(got))
			}
		}
	}
}

func TestExpandOutOfBounds(t *testing.T) {
	for _, n := range []int{math.MinInt, -8160, -32, -1, 8161, 8192, 65535, 65536, 65568, 1 << 32, 1<<32 + 32, math.MaxInt} {
		if got := Expand(sample(32), sample(3), n); len(got) != 0 {
			t.Errorf("P3.1: Expand to %d: %d bytes", n, len(got))
		}
		if got := Label(sample(32), "quic key", nil, n); len(got) != 0 {
			t.Errorf("P3.1: Label to %d: %d bytes", n, len(got))
		}
	}
}

func TestLabelOfKnownTexts(t *testing.T) {
	// RFC 9001, A.1: the secrets of a client's first packets.
	salt := unhex(t, "38762cf7f55934b34d179ae6a4c80cadccbb7f0a")
	initial := Extract(salt, unhex(t, "8394c8f03e515708"))
	client := Label(initial[:], "client in", nil, 32)
	for _, c := range []struct {
		label string
		n     int
		from  []byte
		want  string
	}{
		{"client in", 32, initial[:], "c00cf151ca5be075ed0ebfb5c80323c42d6b7db67881289af4008f1f6c357aea"},
		{"server in", 32, initial[:], "3c199828fd139efd216c155ad844cc81fb82fa8d7446fa7d78be803acdda951b"},
		{"quic key", 16, client, "1f369613dd76d5467730efcbe3b1a22d"},
		{"quic iv", 12, client, "fa044b2f42a3fd3b46fb255c"},
		{"quic hp", 16, client, "9f50449e04a0e810283a1e9933adedd2"},
	} {
		if got := Label(c.from, c.label, nil, c.n); hex.EncodeToString(got) != c.want {
			t.Errorf("P3.1: Label %q: %x, want %s", c.label, got, c.want)
		}
	}
}

func TestLabelLengths(t *testing.T) {
	for _, label := range []int{0, 1, 9, 248, 249} {
		for _, context := range []int{0, 1, 32, 254, 255} {
			for _, n := range []int{0, 1, 16, 32, 33, 255, 256, 300, 8159, 8160} {
				name := strings.Repeat("x", label)
				got := Label(sample(32), name, sample(context), n)
				if want := libraryLabel(sample(32), name, sample(context), n); !bytes.Equal(got, want) {
					t.Errorf("P3.1: Label of %d bytes, a context of %d, to %d: %d bytes", label, context, n, len(got))
				}
			}
		}
	}
}

func TestLabelTooLong(t *testing.T) {
	for _, c := range []struct{ label, context int }{
		{250, 0}, {251, 0}, {255, 0}, {256, 0}, {506, 1}, {0, 256}, {8, 257}, {8, 512}, {249, 256}, {250, 255}, {250, 256}, {70000, 70000},
	} {
		if got := Label(sample(32), strings.Repeat("x", c.label), sample(c.context), 16); len(got) != 0 {
			t.Errorf("P3.1: Label of %d bytes, a context of %d: %x", c.label, c.context, got)
		}
	}
	if got := Label(sample(32), strings.Repeat("ä", 125), nil, 16); len(got) != 0 {
		t.Errorf("P3.1: Label of 250 bytes in 125 runes: %x", got)
	}
}

func TestLabelOfStrangeBytes(t *testing.T) {
	for _, label := range []string{"\x00", "\xff\xfe", "ä", strings.Repeat("ä", 124)} {
		if got, want := Label(nil, label, nil, 40), libraryLabel(nil, label, nil, 40); !bytes.Equal(got, want) {
			t.Errorf("P3.1: Label %q: %x, want %x", label, got, want)
		}
	}
}

func TestEqual(t *testing.T) {
	for n := range 70 {
		a, b := sample(n), sample(n)
		if !Equal(a, b) || !Equal(a, a) {
			t.Errorf("P3.1: Equal of the same %d bytes", n)
		}
		for i := range b {
			for bit := range 8 {
				b[i] ^= 1 << bit
				if Equal(a, b) || Equal(b, a) {
					t.Errorf("P3.1: Equal of %d bytes with bit %d of byte %d unlike", n, bit, i)
				}
				b[i] ^= 1 << bit
			}
		}
		if longer := append(sample(n), 0); Equal(a, longer) || Equal(longer, a) {
			t.Errorf("P3.1: Equal of %d and %d bytes", n, n+1)
		}
	}
	if !Equal(nil, nil) || !Equal(nil, []byte{}) || !Equal([]byte{}, nil) {
		t.Error("P3.1: Equal of nothing")
	}
	if Equal(nil, []byte{0}) || Equal([]byte{0}, nil) {
		t.Error("P3.1: Equal of nothing and a zero")
	}
	if Equal([]byte{1, 2}, []byte{2, 1}) || Equal([]byte{3, 3}, []byte{5, 5}) {
		t.Error("P3.1: Equal of unlike bytes whose differences are like")
	}
}

func TestNothingHandedInIsChanged(t *testing.T) {
	for _, n := range []int{0, 1, 32, 63, 64, 65, 200} {
		room := sample(n + 300)
		kept := bytes.Clone(room)
		text := room[:n]
		list := append(make([][]byte, 0, 8), text, text[:n/2])
		parts := list[:1]
		MAC(text, parts...)
		Extract(text, text)
		Expand(text, text, 100)
		Label(text, "label", text[:n/2], 100)
		Equal(text, text)
		if !bytes.Equal(room, kept) {
			t.Errorf("R4: %d bytes, or what lies behind, were changed", n)
		}
		if len(list[0]) != n || len(list[1]) != n/2 || list[:3][2] != nil {
			t.Errorf("R4: the list of parts, or its spare room, was changed at %d", n)
		}
	}
}

func TestAnswersAreNewMemory(t *testing.T) {
	for _, n := range []int{0, 1, 31, 32, 33, 100} {
		for name, call := range map[string]func() []byte{
			"Expand": func() []byte { return Expand(sample(32), sample(7), n) },
			"Label":  func() []byte { return Label(sample(32), "label", sample(7), n) },
		} {
			first := call()
			kept := bytes.Clone(first)
			second := call()
			second = second[:cap(second)]
			for i := range second {
				second[i] ^= 0xff
			}
			if !bytes.Equal(first, kept) || !bytes.Equal(call(), kept) {
				t.Errorf("R4: answers of %s to %d share memory", name, n)
			}
		}
	}
}

func TestCallsFromSeveralGoroutines(t *testing.T) {
	key, text := sample(70), sample(100)
	got := make([][]byte, 64)
	var all sync.WaitGroup
	for i := range got {
		all.Add(1)
		go func() {
			defer all.Done()
			prk := Extract(key[:i], text)
			mac := MAC(key, text[:i], prk[:])
			got[i] = slices.Concat(Label(mac[:], "label", text[:i], 2*i), Expand(prk[:], text, i))
		}()
	}
	all.Wait()
	for i := range got {
		prk := libraryMAC(key[:i], text)
		mac := libraryMAC(key, text[:i], prk[:])
		want := append(libraryLabel(mac[:], "label", text[:i], 2*i), libraryExpand(prk[:], text, i)...)
		if !bytes.Equal(got[i], want) {
			t.Errorf("R5: calls at one time with others, of %d: %x", i, got[i])
		}
	}
}
