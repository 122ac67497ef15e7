package header

import (
	"bytes"
	"encoding/binary"
	"encoding/hex"
	"math"
	"reflect"
	"sync"
	"testing"

	"mantilla/api"
)

// sample is n bytes that differ from one n to the next; none of them is 0.
func sample(n int) []byte {
	b := make([]byte, n)
	for i := range b {
		b[i] = byte(i*37+3*n)%251 + 1
	}
	return b
}

// unhex is what a text of hex digits tells.
func unhex(t *testing.T, text string) []byte {
	t.Helper()
	b, err := hex.DecodeString(text)
	if err != nil {
		t.Fatal(err)
	}
	return b
}

// short is a short header that may be.
func short(spin, phase bool, num uint64, numLen int) api.Header {
	return api.Header{Dst: sample(8), Spin: spin, Phase: phase, Num: num, NumLen: numLen}
}

// long is a long header that may be, if the numbers may.
func long(kind, src, token, numLen int) api.Header {
	return api.Header{
		Long: true, Kind: kind, Version: 0x01020304, Num: 0x1122334455, NumLen: numLen,
		Dst: sample(8), Src: sample(src), Token: sample(token),
	}
}

// headers are ones that may be: each kind, each length of a number, and the lengths of IDs and tokens at their edges.
func headers() []api.Header {
	var all []api.Header
	for numLen := 1; numLen <= 4; numLen++ {
		for _, num := range []uint64{0, 1, 0x0102030405060708, 1<<32 - 1, api.MaxVar} {
			all = append(all, short(false, false, num, numLen), short(true, false, num, numLen))
			all = append(all, short(false, true, num, numLen), short(true, true, num, numLen))
		}
		for _, src := range []int{0, 1, 8, 19, 20} {
			for _, token := range []int{0, 1, 2, 63, 64, 65, 99, 100} {
				all = append(all, long(0, src, token, numLen))
			}
			all = append(all, long(2, src, 0, numLen))
		}
		none, last := long(2, 3, 0, numLen), long(0, 3, 3, numLen)
		none.Version, none.Num = 0, 0
		last.Version, last.Num = 1<<32-1, api.MaxVar
		all = append(all, none, last)
	}
	return all
}

// number is the lowest size bytes of n, the highest first.
func number(n uint64, size int) []byte {
	return binary.BigEndian.AppendUint64(nil, n)[8-size:]
}

// ruledPut is a header's bytes by the rule, each part by itself.
func ruledPut(h api.Header, rest int) []byte {
	bit := map[bool]byte{true: 1}
	if !h.Long {
		first := 64 + 32*bit[h.Spin] + 4*bit[h.Phase] + byte(h.NumLen) - 1
		return bytes.Join([][]byte{{first}, h.Dst, number(h.Num, h.NumLen)}, nil)
	}
	first := 128 + 64 + 16*byte(h.Kind) + byte(h.NumLen) - 1
	var token []byte
	if h.Kind == 0 {
		token = []byte{byte(len(h.Token))}
		if len(h.Token) > 63 {
			token = []byte{64, byte(len(h.Token))}
		}
	}
	told := number(1<<14+uint64(rest+h.NumLen), 2)
	return bytes.Join([][]byte{
		{first}, number(uint64(h.Version), 4), {8}, h.Dst, {byte(len(h.Src))}, h.Src,
		token, h.Token, told, number(h.Num, h.NumLen),
	}, nil)
}

// fault is what stops a reading by the rule.
type fault struct{ code api.Errno }

// ruledGet reads a header by the rule, place by place, and stops where something is wrong.
func ruledGet(b []byte) (h api.Header, size, rest int, code api.Errno) {
	at := 0
	defer func() {
		if f, ok := recover().(fault); ok {
			h, size, rest, code = api.Header{}, 0, 0, f.code
		}
	}()
	must := func(ok bool, code api.Errno) {
		if !ok {
			panic(fault{code})
		}
	}
	take := func(n int) []byte {
		must(n <= len(b)-at, api.ErrShort)
		at += n
		return bytes.Clone(b[at-n : at])
	}
	whole := func(n int) uint64 {
		return binary.BigEndian.Uint64(append(make([]byte, 8-n), take(n)...))
	}
	self := func() uint64 {
		must(at < len(b), api.ErrShort)
		n := 1 << (b[at] >> 6)
		return whole(n) << (64 - 8*n + 2) >> (64 - 8*n + 2)
	}
	first := whole(1)
	must(first&64 != 0, api.ErrForm)
	h.NumLen = int(first%4) + 1
	if first < 128 {
		must(first&24 == 0, api.ErrForm)
		h.Spin, h.Phase = first&32 != 0, first&4 != 0
		h.Dst, h.Num = take(8), whole(h.NumLen)
		return h, at, len(b) - at, api.OK
	}
	must(first&12 == 0 && first&16 == 0, api.ErrForm)
	h.Long, h.Kind, h.Version = true, int(first&32>>4), uint32(whole(4))
	must(whole(1) == 8, api.ErrForm)
	h.Dst = take(8)
	src := whole(1)
	must(src <= 20, api.ErrForm)
	h.Src = take(int(src))
	if h.Kind == 0 {
		token := self()
		must(token <= 100, api.ErrForm)
		h.Token = take(int(token))
	}
	told := self()
	must(told >= uint64(h.NumLen), api.ErrForm)
	h.Num = whole(h.NumLen)
	told -= uint64(h.NumLen)
	must(told <= uint64(len(b)-at), api.ErrShort)
	return h, at, int(told), api.OK
}

// same tells whether two headers are, where an empty list is no list.
func same(g, h api.Header) bool {
	for _, list := range []*[]byte{&g.Dst, &g.Src, &g.Token, &h.Dst, &h.Src, &h.Token} {
		if len(*list) == 0 {
			*list = nil
		}
	}
	return reflect.DeepEqual(g, h)
}

// expectGet fails unless Get answers just that.
func expectGet(t *testing.T, b []byte, want api.Header, wantSize, wantRest int, wantCode api.Errno) {
	t.Helper()
	h, size, rest, code := Get(b)
	if !same(h, want) || size != wantSize || rest != wantRest || code != wantCode {
		t.Errorf("P6.1: Get(%x): %+v, %d, %d, %d, not %+v, %d, %d, %d", b, h, size, rest, code, want, wantSize, wantRest, wantCode)
	}
}

// expectFault fails unless Get answers the code and nothing beside it.
func expectFault(t *testing.T, b []byte, code api.Errno) {
	t.Helper()
	expectGet(t, b, api.Header{}, 0, 0, code)
}

// cutNum is the header with the bytes of its number that are laid.
func cutNum(h api.Header) api.Header {
	h.Num %= 1 << (8 * h.NumLen)
	return h
}

// changed is the header with something about it changed.
func changed(h api.Header, change func(h *api.Header)) api.Header {
	change(&h)
	return h
}

// wrongHeaders are ones that may not be, each by one thing.
func wrongHeaders() []api.Header {
	var all []api.Header
	for _, h := range []api.Header{short(true, true, 7, 2), long(0, 20, 100, 4), long(2, 20, 0, 1)} {
		for _, n := range []int{math.MinInt, -1, 0, 5, 6, 256 + 1, math.MaxInt} {
			all = append(all, changed(h, func(h *api.Header) { h.NumLen = n }))
		}
		for _, n := range []uint64{api.MaxVar + 1, 1 << 63, math.MaxUint64} {
			all = append(all, changed(h, func(h *api.Header) { h.Num = n }))
		}
		for _, n := range []int{0, 1, 7, 9, 20, 256 + 8} {
			all = append(all, changed(h, func(h *api.Header) { h.Dst = sample(n) }))
		}
		all = append(all, changed(h, func(h *api.Header) { h.Dst = nil }))
	}
	for _, kind := range []int{math.MinInt, -2, -1, 1, 3, 4, 256, 256 + 2, math.MaxInt} {
		all = append(all, long(kind, 0, 0, 1))
	}
	for _, n := range []int{1, 50, 100, 101} {
		all = append(all, long(2, 0, n, 1))
	}
	for _, kind := range []int{0, 2} {
		all = append(all, long(kind, 21, 0, 1), long(kind, 256, 0, 1))
		all = append(all, changed(long(kind, 0, 0, 1), func(h *api.Header) { h.Spin = true }))
		all = append(all, changed(long(kind, 0, 0, 1), func(h *api.Header) { h.Phase = true }))
	}
	all = append(all, long(0, 0, 101, 1), long(0, 0, 256, 1), long(0, 21, 101, 1))
	for _, kind := range []int{math.MinInt, -1, 1, 2, 3, 4} {
		all = append(all, changed(short(false, false, 7, 2), func(h *api.Header) { h.Kind = kind }))
	}
	for _, version := range []uint32{1, 1 << 8, 1<<32 - 1} {
		all = append(all, changed(short(false, false, 7, 2), func(h *api.Header) { h.Version = version }))
	}
	all = append(all, changed(short(false, false, 7, 2), func(h *api.Header) { h.Src = sample(1) }))
	all = append(all, changed(short(false, false, 7, 2), func(h *api.Header) { h.Token = sample(1) }))
	return append(all, api.Header{}, api.Header{Long: true}, api.Header{NumLen: 1})
}

func TestHeadersThatMayBe(t *testing.T) {
	for _, h := range headers() {
		if !May(h) {
			t.Errorf("P6.1: May(%+v): false", h)
		}
		if _, e := Put(h, 7); e != api.OK {
			t.Errorf("P6.1: Put(%+v, 7): %d", h, e)
		}
	}
	// An empty list is no list.
	h := short(true, false, 1, 1)
	h.Src, h.Token = []byte{}, []byte{}
	g := long(2, 0, 0, 1)
	g.Src, g.Token = []byte{}, nil
	if !May(h) || !May(g) {
		t.Errorf("P6.1: May with empty lists: %t, %t", May(h), May(g))
	}
}

func TestHeadersThatMayNotBe(t *testing.T) {
	for _, h := range wrongHeaders() {
		if May(h) {
			t.Errorf("P6.1: May(%+v): true", h)
		}
		for _, rest := range []int{0, 1, 100, -1} {
			if b, e := Put(h, rest); e != api.ErrArg || len(b) != 0 {
				t.Errorf("P6.1: Put(%+v, %d): %x, %d", h, rest, b, e)
			}
		}
	}
}

func TestPutOfRests(t *testing.T) {
	for numLen := 1; numLen <= 4; numLen++ {
		most := 1<<14 - 1 - numLen
		for _, h := range []api.Header{short(false, true, 9, numLen), long(0, 20, 100, numLen), long(2, 0, 0, numLen)} {
			for _, rest := range []int{0, 1, 59, 60, 61, 62, 63, 64, 240, most - 1, most} {
				got, e := Put(h, rest)
				if want := ruledPut(h, rest); e != api.OK || !bytes.Equal(got, want) {
					t.Errorf("P6.1: Put(%+v, %d): %x, %d, not %x", h, rest, got, e, want)
				}
			}
			for _, rest := range []int{math.MinInt, -1 << 14, -numLen, -1, most + 1, most + 2, 1 << 14, 1 << 16, 1 << 40, math.MaxInt - 1, math.MaxInt} {
				if got, e := Put(h, rest); e != api.ErrArg || len(got) != 0 {
					t.Errorf("P6.1: Put(%+v, %d): %x, %d", h, rest, got, e)
				}
			}
		}
	}
}

func TestPutOfKnownHeaders(t *testing.T) {
	id, name := sample(8), hex.EncodeToString(sample(8))
	known := []struct {
		h    api.Header
		rest int
		want string
	}{
		// RFC 9001, A.2: the client's first one.
		{api.Header{Long: true, Version: 1, Dst: unhex(t, "8394c8f03e515708"), Num: 2, NumLen: 4}, 1178,
			"c3" + "00000001" + "08" + "8394c8f03e515708" + "00" + "00" + "449e" + "00000002"},
		{api.Header{Long: true, Version: 1, Dst: id, Src: []byte{9, 8, 7}, Token: []byte{5, 6}, Num: 0xabcdef, NumLen: 3}, 0,
			"c2" + "00000001" + "08" + name + "03" + "090807" + "02" + "0506" + "4003" + "abcdef"},
		{api.Header{Long: true, Kind: 2, Version: 0xff00001d, Dst: id, Src: []byte{9}, Num: 0x12345, NumLen: 2}, 61,
			"e1" + "ff00001d" + "08" + name + "01" + "09" + "403f" + "2345"},
		{api.Header{Long: true, Kind: 2, Dst: id, Num: api.MaxVar, NumLen: 1}, 16382,
			"e0" + "00000000" + "08" + name + "00" + "7fff" + "ff"},
		{api.Header{Dst: id, Num: 0x123456789a, NumLen: 1}, 3, "40" + name + "9a"},
		{api.Header{Dst: id, Spin: true, Num: 0x123456789a, NumLen: 2}, 3, "61" + name + "789a"},
		{api.Header{Dst: id, Phase: true, Num: 0x123456789a, NumLen: 3}, 3, "46" + name + "56789a"},
		{api.Header{Dst: id, Spin: true, Phase: true, Num: 0x123456789a, NumLen: 4}, 3, "67" + name + "3456789a"},
	}
	for _, k := range known {
		want := unhex(t, k.want)
		if got, e := Put(k.h, k.rest); e != api.OK || !bytes.Equal(got, want) {
			t.Errorf("P6.1: Put(%+v, %d): %x, %d, not %s", k.h, k.rest, got, e, k.want)
		}
		expectGet(t, append(want, make([]byte, k.rest)...), cutNum(k.h), len(k.want)/2, k.rest, api.OK)
	}
}

func TestWhatIsLaidIsReadAgain(t *testing.T) {
	for _, h := range headers() {
		for _, rest := range []int{0, 1, 60, 61, 300} {
			laid, e := Put(h, rest)
			if want := ruledPut(h, rest); e != api.OK || !bytes.Equal(laid, want) {
				t.Fatalf("P6.1: Put(%+v, %d): %x, %d, not %x", h, rest, laid, e, want)
			}
			whole := append(bytes.Clone(laid), sample(rest)...)
			expectGet(t, whole, cutNum(h), len(laid), rest, api.OK)
			more := rest
			if !h.Long {
				more = rest + 3
			}
			expectGet(t, append(whole, 1, 2, 3), cutNum(h), len(laid), more, api.OK)
			if rest == 0 {
				continue
			}
			if h.Long {
				expectFault(t, laid, api.ErrShort)
				expectFault(t, whole[:len(whole)-1], api.ErrShort)
			} else {
				expectGet(t, laid, cutNum(h), len(laid), 0, api.OK)
				expectGet(t, whole[:len(whole)-1], cutNum(h), len(laid), rest-1, api.OK)
			}
		}
	}
}

func TestGetCutAtEachByte(t *testing.T) {
	expectFault(t, nil, api.ErrShort)
	expectFault(t, []byte{}, api.ErrShort)
	for _, h := range headers() {
		for _, rest := range []int{0, 5} {
			laid, _ := Put(h, rest)
			whole := append(bytes.Clone(laid), sample(rest)...)
			for k := range laid {
				expectFault(t, laid[:k], api.ErrShort)
			}
			for k := len(laid); h.Long && k < len(whole); k++ {
				expectFault(t, whole[:k], api.ErrShort)
			}
		}
	}
}

// expectRuled fails unless Get answers what a reading by the rule does.
func expectRuled(t *testing.T, b []byte) {
	t.Helper()
	h, size, rest, code := ruledGet(b)
	expectGet(t, b, h, size, rest, code)
}

func TestGetWithEachByteTurned(t *testing.T) {
	for _, h := range []api.Header{short(true, false, 0x0203, 2), long(0, 3, 2, 2), long(0, 0, 70, 4), long(2, 20, 0, 3), long(2, 0, 0, 1)} {
		laid, _ := Put(h, 4)
		// Read with just what is told behind it, with less, and with enough for what a turned length may tell.
		for _, behind := range []int{4, 3, 0, 300} {
			whole := append(bytes.Clone(laid), sample(behind)...)
			for at := range laid {
				for turn := 1; turn < 256; turn++ {
					b := bytes.Clone(whole)
					b[at] ^= byte(turn)
					expectRuled(t, b)
				}
			}
		}
	}
}

func TestGetOfTurnedBytesCutAtEachByte(t *testing.T) {
	// Which of two faults is told hangs on which stands first.
	for _, h := range []api.Header{short(true, true, 1, 3), long(0, 2, 3, 2), long(2, 1, 0, 4)} {
		laid, _ := Put(h, 2)
		whole := append(laid, 1, 2)
		for k := range len(whole) + 1 {
			for at := range k {
				for turn := 1; turn < 256; turn++ {
					b := bytes.Clone(whole[:k])
					b[at] ^= byte(turn)
					expectRuled(t, b)
				}
			}
		}
	}
}

func TestGetOfEachFirstByte(t *testing.T) {
	for first := range 256 {
		form := first&0x40 == 0 || first&0x80 == 0 && first&0x18 != 0 || first&0x80 != 0 && first&0x1c != 0
		want := api.ErrShort
		if form {
			want = api.ErrForm
		}
		// The first byte is told ahead of what is missing behind it.
		expectFault(t, []byte{byte(first)}, want)
		expectFault(t, []byte{byte(first), 0, 0, 0}, want)
		b := append([]byte{byte(first)}, make([]byte, 60)...)
		if first&0x80 != 0 {
			b[5], b[16] = 8, 20
		}
		if form {
			expectFault(t, b, api.ErrForm)
		}
		expectRuled(t, b)
	}
}

func TestGetTellsWhatStandsFirst(t *testing.T) {
	const first, version, dst = "c1", "00000001", "080102030405060708"
	for _, x := range []struct {
		text string
		code api.Errno
	}{
		// An ID's length is told where it stands, whether its bytes are there or not.
		{first + version + "07", api.ErrForm},
		{first + version + "09", api.ErrForm},
		{first + version + "00", api.ErrForm},
		{first + version + "ff", api.ErrForm},
		{first + version + "08", api.ErrShort},
		{first + version + dst + "15", api.ErrForm},
		{first + version + dst + "ff", api.ErrForm},
		{first + version + dst + "14", api.ErrShort},
		{first + version + "0801020304050607" + "15", api.ErrShort},
		// So is a token's.
		{first + version + dst + "00" + "4065", api.ErrForm},
		{first + version + dst + "00" + "4064", api.ErrShort},
		{first + version + dst + "00" + "40", api.ErrShort},
		{first + version + dst + "00" + "80000065", api.ErrForm},
		{first + version + dst + "00" + "ffffffffffffffff", api.ErrForm},
		{first + version + dst + "00" + "c00000010000000001", api.ErrForm},
		{first + version + dst + "15" + "4065", api.ErrForm},
		// And the length that is told, ahead of the number.
		{first + version + dst + "00" + "00" + "01", api.ErrForm},
		{first + version + dst + "00" + "00" + "00", api.ErrForm},
		{first + version + dst + "00" + "00" + "4001", api.ErrForm},
		{first + version + dst + "00" + "00" + "02", api.ErrShort},
		{first + version + dst + "00" + "00" + "02" + "07", api.ErrShort},
		{first + version + dst + "00" + "00" + "01" + "0707", api.ErrForm},
		{first + version + dst + "00" + "00" + "03" + "0707", api.ErrShort},
		{first + version + dst + "00" + "00" + "7fff" + "0707", api.ErrShort},
		{first + version + dst + "00" + "00" + "ffffffffffffffff" + "070709", api.ErrShort},
		{first + version + dst + "00" + "00" + "c000000100000003" + "070709", api.ErrShort},
		{"c3" + version + dst + "00" + "00" + "03", api.ErrForm},
		{"c3" + version + dst + "00" + "00" + "04", api.ErrShort},
		// Of Kind 2 there is no token, so that the length stands there.
		{"e1" + version + dst + "00" + "01" + "0707", api.ErrForm},
		{"e1" + version + dst + "00" + "03" + "0707", api.ErrShort},
	} {
		expectFault(t, unhex(t, x.text), x.code)
	}
}

func TestGetOfLongerVarints(t *testing.T) {
	const ahead = "c0" + "00000001" + "08" + "0102030405060708" + "00"
	want := api.Header{Long: true, Version: 1, Dst: []byte{1, 2, 3, 4, 5, 6, 7, 8}, Token: []byte{7, 6}, Num: 9, NumLen: 1}
	for _, token := range []string{"02", "4002", "80000002", "c000000000000002"} {
		for _, told := range []string{"03", "4003", "80000003", "c000000000000003"} {
			laid := unhex(t, ahead+token+"0706"+told+"09")
			expectGet(t, append(laid, 1, 2), want, len(laid), 2, api.OK)
			expectGet(t, append(laid, 1, 2, 3), want, len(laid), 2, api.OK)
			expectFault(t, append(laid, 1), api.ErrShort)
		}
	}
	// More may be told than Put tells.
	great := unhex(t, ahead+"02"+"0706"+"8000c001"+"09")
	expectGet(t, append(great, make([]byte, 0xc000)...), want, len(great), 0xc000, api.OK)
	expectFault(t, append(great, make([]byte, 0xc000-1)...), api.ErrShort)
}

func TestGetOfAGreatShort(t *testing.T) {
	laid, _ := Put(short(true, true, 0x55, 1), 0)
	expectGet(t, append(laid, make([]byte, 1<<20)...), short(true, true, 0x55, 1), 10, 1<<20, api.OK)
}

// roomy is b with bytes behind it that must stay as they are.
func roomy(b []byte) []byte {
	return append(bytes.Clone(b), sample(50)...)[:len(b)]
}

func TestNothingIsChanged(t *testing.T) {
	for _, h := range append(headers(), wrongHeaders()...) {
		given := h
		given.Dst, given.Src, given.Token = roomy(h.Dst), roomy(h.Src), roomy(h.Token)
		May(given)
		Put(given, 5)
		Put(given, -1)
		if !same(given, h) {
			t.Errorf("R4: %+v is another one", h)
		}
		for _, list := range [][]byte{given.Dst, given.Src, given.Token} {
			if !bytes.Equal(list[len(list):len(list)+50], sample(50)) {
				t.Errorf("R4: the room behind a list of %+v is another one", h)
			}
		}
	}
	for _, h := range headers() {
		laid, _ := Put(h, 5)
		for k := range len(laid) + 5 {
			whole := append(bytes.Clone(laid), sample(30)...)
			was := bytes.Clone(whole)
			Get(whole[:k])
			if !bytes.Equal(whole, was) {
				t.Errorf("R4: what Get read, %d bytes of %x, is another one", k, was)
			}
		}
	}
}

// overwrite turns all bytes of b and of its spare room.
func overwrite(b []byte) {
	b = b[:cap(b)]
	for i := range b {
		b[i] = ^b[i]
	}
}

func TestNothingIsShared(t *testing.T) {
	for _, h := range headers() {
		one, _ := Put(h, 0)
		two, _ := Put(h, 0)
		was := bytes.Clone(one)
		overwrite(two)
		if !bytes.Equal(one, was) || !bytes.Equal(ruledPut(h, 0), was) {
			t.Errorf("R4: the bytes of %+v share memory", h)
		}
		first, _, _, _ := Get(one)
		second, _, _, _ := Get(one)
		// Each list by itself, since one might share memory with the next.
		overwrite(second.Dst)
		overwrite(second.Src)
		if !same(first, cutNum(h)) || !bytes.Equal(one, was) || !bytes.Equal(second.Token, h.Token) {
			t.Errorf("R4: the lists of %+v share memory", h)
		}
		overwrite(second.Token)
		overwrite(one)
		if !same(first, cutNum(h)) {
			t.Errorf("R4: what was read of %+v shares memory with what it was read of", h)
		}
	}
}

func TestCutOfKnownNumbers(t *testing.T) {
	// RFC 9000, A.2.
	if got := Cut(0xac5c02, 0xabe8b3, true); got != 2 {
		t.Errorf("P6.2: Cut(0xac5c02, 0xabe8b3, true): %d", got)
	}
	if got := Cut(0xace8fe, 0xabe8b3, true); got != 3 {
		t.Errorf("P6.2: Cut(0xace8fe, 0xabe8b3, true): %d", got)
	}
}

// expectCut fails unless Cut answers just that.
func expectCut(t *testing.T, num, acked uint64, any bool, want int) {
	t.Helper()
	if got := Cut(num, acked, any); got != want {
		t.Errorf("P6.2: Cut(%d, %d, %t): %d, not %d", num, acked, any, got, want)
	}
}

func TestCutAtTheEdges(t *testing.T) {
	spans := []struct {
		span uint64
		want int
	}{
		{0, 1}, {1, 1}, {2, 1}, {127, 1}, {128, 1}, {129, 2}, {256, 2}, {1<<15 - 1, 2}, {1 << 15, 2}, {1<<15 + 1, 3},
		{1 << 16, 3}, {1<<23 - 1, 3}, {1 << 23, 3}, {1<<23 + 1, 4}, {1 << 31, 4}, {1<<31 + 1, 4}, {1 << 40, 4}, {1 << 61, 4},
	}
	for _, x := range spans {
		for _, acked := range []uint64{0, 1, 255, 256, 1 << 33, api.MaxVar, 1 << 63} {
			expectCut(t, acked+x.span, acked, true, x.want)
		}
		if x.span > 0 {
			expectCut(t, x.span-1, 0, false, x.want)
		}
	}
}

func TestCutWrapsNothing(t *testing.T) {
	const last = math.MaxUint64
	for _, num := range []uint64{api.MaxVar, api.MaxVar + 1, 1 << 63, last - 1, last} {
		expectCut(t, num, 0, true, 4)
		expectCut(t, num, 0, false, 4)
		expectCut(t, num, num, true, 1)
		expectCut(t, num, num-1, true, 1)
		expectCut(t, num, num-129, true, 2)
	}
	for _, acked := range []uint64{1, 200, 1000, 1 << 40, 1 << 63, last} {
		for _, num := range []uint64{0, acked / 2, acked - 1} {
			expectCut(t, num, acked, true, 1)
		}
	}
	expectCut(t, 5, 9, false, 1)
}

func TestCutOfNoneAcked(t *testing.T) {
	// Nothing came: what acked is does not matter.
	for _, acked := range []uint64{0, 1, 5000, 1 << 40, math.MaxUint64} {
		expectCut(t, 127, acked, false, 1)
		expectCut(t, 128, acked, false, 2)
		expectCut(t, 1<<15, acked, false, 3)
		expectCut(t, 1<<23, acked, false, 4)
		expectCut(t, math.MaxUint64, acked, false, 4)
	}
}

// expectFull fails unless Full answers just that.
func expectFull(t *testing.T, cut uint64, n int, largest uint64, any bool, want uint64) {
	t.Helper()
	if got := Full(cut, n, largest, any); got != want {
		t.Errorf("P6.2: Full(%#x, %d, %#x, %t): %#x, not %#x", cut, n, largest, any, got, want)
	}
}

func TestFullOfKnownNumbers(t *testing.T) {
	// RFC 9000, A.3, and what is above the bytes that count.
	expectFull(t, 0x9b32, 2, 0xa82f30ea, true, 0xa82f9b32)
	expectFull(t, 0x77779b32, 2, 0xa82f30ea, true, 0xa82f9b32)
	expectFull(t, 1<<63|0x9b32, 2, 0xa82f30ea, true, 0xa82f9b32)
	expectFull(t, 0x32, 1, 0xa82f30ea, true, 0xa82f3132)
	expectFull(t, 0x2f9b32, 3, 0xa82f30ea, true, 0xa82f9b32)
	expectFull(t, 0xa82f9b32, 4, 0xa82f30ea, true, 0xa82f9b32)
}

func TestFullAtBothEndsOfWindows(t *testing.T) {
	for n := 1; n <= 4; n++ {
		window := uint64(1) << (8 * n)
		half := window / 2
		for _, largest := range []uint64{
			window, window + 1, window + half - 2, window + half - 1, window + half, 2*window - 2, 2*window - 1, 2 * window,
			5*window + 77, 1<<40 + 12345, 1<<61 + 3, api.MaxVar - 2*window, api.MaxVar - window,
		} {
			next := largest + 1
			for _, num := range []uint64{next - half + 1, next - half + 2, next - 1, next, next + 1, next + half - 1, next + half} {
				expectFull(t, num%window, n, largest, true, num)
				expectFull(t, num, n, largest, true, num)
			}
			// One past each end is told as its like at the other one.
			expectFull(t, (next-half)%window, n, largest, true, next+half)
			expectFull(t, (next+half+1)%window, n, largest, true, next-half+1)
		}
	}
}

func TestFullNearZero(t *testing.T) {
	for n := 1; n <= 4; n++ {
		window := uint64(1) << (8 * n)
		half := window / 2
		// Nothing is below 0, so that what would be there is a window higher.
		for _, largest := range []uint64{0, 1, 5, half - 2} {
			for _, cut := range []uint64{0, 1, half - 1, half, largest + half + 1, window - 1} {
				expectFull(t, cut%window, n, largest, true, cut%window)
			}
		}
		expectFull(t, 0, n, half-1, true, window)
		expectFull(t, 0, n, half-2, true, 0)
		expectFull(t, window-1, n, window-1, true, window-1)
		expectFull(t, 0, n, window-1, true, window)
		for _, largest := range []uint64{0, 1, window, 1 << 40, api.MaxVar} {
			for _, cut := range []uint64{0, 1, half, half + 1, window - 1} {
				expectFull(t, cut, n, largest, false, cut)
				expectFull(t, cut+3*window, n, largest, false, cut)
			}
		}
	}
}

func TestFullNearTheGreatest(t *testing.T) {
	for n := 1; n <= 4; n++ {
		window := uint64(1) << (8 * n)
		half := window / 2
		for _, num := range []uint64{api.MaxVar, api.MaxVar - 1, api.MaxVar - half + 3} {
			for _, largest := range []uint64{api.MaxVar, api.MaxVar - 1, api.MaxVar - half} {
				expectFull(t, num%window, n, largest, true, num)
			}
		}
		// What is past MaxVar from the beginning stays there, though no packet has it.
		expectFull(t, 0, n, api.MaxVar, true, api.MaxVar+1)
		expectFull(t, half, n, api.MaxVar, true, api.MaxVar+1+half)
		expectFull(t, half+1, n, api.MaxVar, true, api.MaxVar+2-half)
	}
}

func TestFullIsNotRaisedPastTheGreatest(t *testing.T) {
	for n := 1; n <= 4; n++ {
		window := uint64(1) << (8 * n)
		half := window / 2
		// The numbers of the last window stay in it, however far above them the next one is.
		last := api.MaxVar + 1 - window
		for _, largest := range []uint64{api.MaxVar - 1, api.MaxVar - 2, api.MaxVar - half/2, api.MaxVar - half} {
			for _, cut := range []uint64{0, 1, half - 2, half - 1, half, half + 1, window - 1} {
				expectFull(t, cut, n, largest, true, last+cut)
				expectFull(t, cut+7*window, n, largest, true, last+cut)
			}
		}
		// The window ahead of it is raised into it, as all are.
		expectFull(t, 0, n, last-1, true, last)
		expectFull(t, 0, n, last-2, true, last)
		expectFull(t, 0, n, last-half-1, true, last)
		expectFull(t, 0, n, last-half-2, true, last-window)
		expectFull(t, half-1, n, last-2, true, last+half-1)
		expectFull(t, half, n, last-2, true, last-half)
	}
}

func TestFullIsTheNearest(t *testing.T) {
	for _, around := range []uint64{0, 256, 1 << 16, 1 << 30, 1<<62 - 1100} {
		for step := range uint64(60) {
			largest := around + 17*step
			next := largest + 1
			for cut := range uint64(256) {
				// All numbers of that last byte that packets may have, from far below on; a tie goes to the greater one.
				best, least := cut, uint64(math.MaxUint64)
				low := max(next, 512) - 512
				for num := low&^255 | cut; num <= min(next+512, api.MaxVar); num += 256 {
					if far := max(num, next) - min(num, next); far <= least {
						best, least = num, far
					}
				}
				expectFull(t, cut, 1, largest, true, best)
			}
		}
	}
}

func TestFullOfWhatMayNotBe(t *testing.T) {
	for _, n := range []int{math.MinInt, -1, 0, 5, 8, 64, math.MaxInt} {
		for _, any := range []bool{true, false} {
			expectFull(t, 7, n, 9, any, 0)
			expectFull(t, 1<<63, n, api.MaxVar, any, 0)
		}
	}
	for _, largest := range []uint64{api.MaxVar + 1, 1 << 63, math.MaxUint64} {
		for n := 1; n <= 4; n++ {
			expectFull(t, 7, n, largest, true, 0)
			expectFull(t, 7, n, largest, false, 0)
		}
	}
}

func TestWhatIsCutIsFoundAgain(t *testing.T) {
	spans := []uint64{0, 1, 2, 127, 128, 129, 1 << 15, 1<<15 + 1, 1 << 23, 1<<23 + 1, 1 << 31}
	for _, acked := range []uint64{0, 1, 127, 128, 255, 256, 65535, 65536, 1<<32 - 1, 1 << 40, api.MaxVar - 1<<31} {
		for _, span := range spans {
			num := acked + span
			n := Cut(num, acked, true)
			cut := num % (1 << (8 * n))
			// Who reads has acked at least, and at most what was sent ahead of num.
			for _, largest := range []uint64{acked, acked + span/2, max(num, 1) - 1, num} {
				if largest >= acked {
					expectFull(t, cut, n, largest, true, num)
				}
			}
		}
	}
	for _, num := range []uint64{0, 1, 127, 128, 1<<15 - 1, 1 << 15, 1<<23 - 1, 1 << 23, 1<<32 - 1} {
		n := Cut(num, 0, false)
		expectFull(t, num%(1<<(8*n)), n, 0, false, num)
	}
}

func TestManyAtOneTime(t *testing.T) {
	h := long(0, 7, 66, 3)
	want := ruledPut(h, 4)
	whole := append(bytes.Clone(want), 1, 2, 3, 4)
	var group sync.WaitGroup
	for range 8 {
		group.Go(func() {
			for k := range uint64(50) {
				laid, e := Put(h, 4)
				if e != api.OK || !bytes.Equal(laid, want) || !May(h) {
					t.Errorf("R5: Put, beside others: %x, %d", laid, e)
				}
				back, n, rest, e := Get(whole)
				if e != api.OK || n != len(want) || rest != 4 || !same(back, cutNum(h)) {
					t.Errorf("R5: Get, beside others: %+v, %d, %d, %d", back, n, rest, e)
				}
				if Full(k, Cut(k, 0, false), 0, false) != k {
					t.Errorf("R5: Full, beside others, of %d", k)
				}
			}
		})
	}
	group.Wait()
}
