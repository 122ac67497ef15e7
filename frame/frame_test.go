package frame

import (
	"bytes"
	"encoding/binary"
	"reflect"
	"sync"
	"testing"

	"mantilla/api"
)

// kinds are those that there are.
func kinds() []int {
	return []int{
		api.Padding, api.Ping, api.Ack, api.Crypto, api.Stream, api.MaxData,
		api.NewCID, api.RetireCID, api.Challenge, api.Response, api.Close, api.Done,
	}
}

// sample is n bytes that differ from one n to the next; none of them is 0.
func sample(n int) []byte {
	b := make([]byte, n)
	for i := range b {
		b[i] = byte(i*37+3*n)%251 + 1
	}
	return b
}

// falling are so many ranges, apart from one another by as little as may be.
func falling(n int) []api.Range {
	var ranges []api.Range
	hi := uint64(1000)
	for i := range n {
		lo := hi - uint64(i)
		ranges = append(ranges, api.Range{Lo: lo, Hi: hi})
		hi = lo - 2
	}
	return ranges
}

// spans are the ranges of which the ends are told, each Lo ahead of its Hi.
func spans(ends ...uint64) []api.Range {
	var ranges []api.Range
	for i := 0; i < len(ends); i += 2 {
		ranges = append(ranges, api.Range{Lo: ends[i], Hi: ends[i+1]})
	}
	return ranges
}

// edges are the numbers at both sides of each of a varint's lengths, up to the greatest one.
func edges() []uint64 {
	return []uint64{0, 1, 63, 64, 1<<14 - 1, 1 << 14, 1<<30 - 1, 1 << 30, api.MaxVar - 1, api.MaxVar}
}

// plain is a frame of each kind, with something other than 0 in each field that it has.
func plain(kind int) api.Frame {
	f := api.Frame{Kind: kind}
	switch kind {
	case api.Padding:
		f.N = 3
	case api.Ack:
		f.Delay, f.Ranges = 70, spans(500, 600, 90, 98, 4, 4)
	case api.Crypto:
		f.Offset, f.Data = 7, sample(5)
	case api.Stream:
		f.ID, f.Offset, f.Fin, f.Data = 4, 300, true, sample(6)
	case api.MaxData, api.RetireCID, api.Close:
		f.N = 1 << 20
	case api.NewCID:
		f.N, f.CID, f.Token = 5, sample(8), sample(16)
	case api.Challenge, api.Response:
		f.Data = sample(8)
	}
	return f
}

// ackFrames are Acks that may be.
func ackFrames() []api.Frame {
	var all []api.Frame
	for n := 1; n <= api.MaxRanges; n++ {
		all = append(all, api.Frame{Kind: api.Ack, Ranges: falling(n), Delay: uint64(n)})
	}
	for _, n := range edges() {
		all = append(all,
			api.Frame{Kind: api.Ack, Delay: n, Ranges: spans(1, 2)},
			api.Frame{Kind: api.Ack, Ranges: spans(0, n)},
			api.Frame{Kind: api.Ack, Ranges: spans(n, n)},
			api.Frame{Kind: api.Ack, Ranges: spans(api.MaxVar-n, api.MaxVar)})
		if n >= 2 {
			all = append(all, api.Frame{Kind: api.Ack, Ranges: spans(n, n, 0, 0)},
				api.Frame{Kind: api.Ack, Ranges: spans(n, n, 0, n-2)},
				api.Frame{Kind: api.Ack, Ranges: spans(n, n, n-2, n-2)})
		}
	}
	return all
}

// pieceFrames are Cryptos and Streams that may be.
func pieceFrames() []api.Frame {
	var all []api.Frame
	for _, size := range []int{0, 1, 2, 63, 64, 65, 1<<14 - 2, 1<<14 - 1} {
		for _, offset := range append(edges(), api.MaxVar-uint64(size)) {
			if offset > api.MaxVar-uint64(size) {
				continue
			}
			all = append(all, api.Frame{Kind: api.Crypto, Offset: offset, Data: sample(size)},
				api.Frame{Kind: api.Stream, Offset: offset, Data: sample(size)},
				api.Frame{Kind: api.Stream, Offset: offset, Data: sample(size), Fin: true, ID: 3})
		}
	}
	for _, id := range edges() {
		all = append(all, api.Frame{Kind: api.Stream, ID: id}, api.Frame{Kind: api.Stream, ID: id, Fin: true, Offset: 9})
	}
	return all
}

// frames are ones that may be: each kind, and each bound met.
func frames() []api.Frame {
	var all []api.Frame
	for _, kind := range kinds() {
		all = append(all, plain(kind))
	}
	for _, n := range []uint64{1, 2, 63, 64, 1<<14 - 1, 1 << 14} {
		all = append(all, api.Frame{Kind: api.Padding, N: n})
	}
	for _, n := range edges() {
		all = append(all, api.Frame{Kind: api.MaxData, N: n}, api.Frame{Kind: api.RetireCID, N: n}, api.Frame{Kind: api.Close, N: n},
			api.Frame{Kind: api.NewCID, N: n, CID: sample(8), Token: sample(16)})
	}
	all = append(all, api.Frame{Kind: api.Challenge, Data: make([]byte, 8)}, api.Frame{Kind: api.Response, Data: make([]byte, 8)})
	all = append(all, ackFrames()...)
	return append(all, pieceFrames()...)
}

// ownFields are the fields that a kind has, beside Kind.
func ownFields(kind int) []string {
	switch kind {
	case api.Padding, api.MaxData, api.RetireCID, api.Close:
		return []string{"N"}
	case api.Ack:
		return []string{"Delay", "Ranges"}
	case api.Crypto:
		return []string{"Offset", "Data"}
	case api.Stream:
		return []string{"ID", "Offset", "Fin", "Data"}
	case api.NewCID:
		return []string{"N", "CID", "Token"}
	case api.Challenge, api.Response:
		return []string{"Data"}
	}
	return nil
}

// fills give each field, by its name, something: as little as there may be of it, and as much as each kind lets.
func fills() map[string][]func(f *api.Frame) {
	return map[string][]func(f *api.Frame){
		"N":      {func(f *api.Frame) { f.N = 1 }, func(f *api.Frame) { f.N = 1<<64 - 1 }},
		"Delay":  {func(f *api.Frame) { f.Delay = 1 }, func(f *api.Frame) { f.Delay = api.MaxVar }},
		"Ranges": {func(f *api.Frame) { f.Ranges = spans(0, 0) }, func(f *api.Frame) { f.Ranges = falling(3) }},
		"ID":     {func(f *api.Frame) { f.ID = 1 }, func(f *api.Frame) { f.ID = api.MaxVar }},
		"Offset": {func(f *api.Frame) { f.Offset = 1 }, func(f *api.Frame) { f.Offset = api.MaxVar }},
		"Fin":    {func(f *api.Frame) { f.Fin = true }},
		"Data":   {func(f *api.Frame) { f.Data = []byte{0} }, func(f *api.Frame) { f.Data = sample(8) }},
		"CID":    {func(f *api.Frame) { f.CID = []byte{0} }, func(f *api.Frame) { f.CID = sample(8) }},
		"Token":  {func(f *api.Frame) { f.Token = []byte{0} }, func(f *api.Frame) { f.Token = sample(16) }},
	}
}

// tooMuch are frames of which one bound is passed by one.
func tooMuch() []api.Frame {
	const over = api.MaxVar + 1
	with := func(kind int, change func(f *api.Frame)) api.Frame {
		f := plain(kind)
		change(&f)
		return f
	}
	all := []api.Frame{
		{Kind: api.Padding}, {Kind: api.Padding, N: 1<<14 + 1}, {Kind: api.Padding, N: over}, {Kind: api.Padding, N: 1<<64 - 1},
		{Kind: api.MaxData, N: over}, {Kind: api.RetireCID, N: over}, {Kind: api.Close, N: over}, {Kind: api.Close, N: 1<<64 - 1},
		{Kind: api.Ack}, {Kind: api.Ack, Ranges: []api.Range{}}, {Kind: api.Ack, Ranges: falling(api.MaxRanges + 1)},
		{Kind: api.Ack, Ranges: falling(1), Delay: over}, {Kind: api.Ack, Ranges: spans(0, over)}, {Kind: api.Ack, Ranges: spans(over, over)},
		{Kind: api.Ack, Ranges: spans(1<<64-1, 1<<64-1)}, {Kind: api.Ack, Ranges: spans(4, 3)}, {Kind: api.Ack, Ranges: spans(1, 0)},
		{Kind: api.Ack, Ranges: spans(9, 9, 4, 3)}, {Kind: api.Ack, Ranges: spans(9, 9, 8, 8)}, {Kind: api.Ack, Ranges: spans(9, 9, 9, 9)},
		{Kind: api.Ack, Ranges: spans(9, 9, 2, 10)}, {Kind: api.Ack, Ranges: spans(3, 4, 6, 7)}, {Kind: api.Ack, Ranges: spans(1, 5, 0, 0)},
		{Kind: api.Ack, Ranges: spans(0, 5, 0, 0)}, {Kind: api.Ack, Ranges: spans(1, 5, 0, 1<<64-1)},
		{Kind: api.Ack, Ranges: spans(0, 5, 1<<64-2, 1<<64-2)}, {Kind: api.Ack, Ranges: spans(9, 9, 5, 6, 4, 4)},
		{Kind: api.Challenge}, {Kind: api.Response}, {Kind: api.NewCID, N: 1},
	}
	for _, kind := range []int{api.Crypto, api.Stream} {
		all = append(all, api.Frame{Kind: kind, Data: sample(1 << 14)}, api.Frame{Kind: kind, Offset: over}, api.Frame{Kind: kind, Offset: 1<<64 - 1, Data: sample(1)},
			api.Frame{Kind: kind, Offset: api.MaxVar, Data: sample(1)}, api.Frame{Kind: kind, Offset: api.MaxVar - 1, Data: sample(2)},
			api.Frame{Kind: kind, Offset: api.MaxVar - 1<<14 + 2, Data: sample(1<<14 - 1)})
	}
	for _, kind := range []int{api.Challenge, api.Response} {
		all = append(all, api.Frame{Kind: kind, Data: sample(7)}, api.Frame{Kind: kind, Data: sample(9)}, api.Frame{Kind: kind, Data: sample(16)})
	}
	return append(all,
		with(api.Stream, func(f *api.Frame) { f.ID = over }),
		with(api.NewCID, func(f *api.Frame) { f.N = over }),
		with(api.NewCID, func(f *api.Frame) { f.CID = sample(7) }), with(api.NewCID, func(f *api.Frame) { f.CID = sample(9) }),
		with(api.NewCID, func(f *api.Frame) { f.CID = nil }), with(api.NewCID, func(f *api.Frame) { f.Token = nil }),
		with(api.NewCID, func(f *api.Frame) { f.Token = sample(15) }), with(api.NewCID, func(f *api.Frame) { f.Token = sample(17) }))
}

// expectNone says that f may not be, and has no bytes.
func expectNone(t *testing.T, f api.Frame) {
	t.Helper()
	if May(f) || len(Put(f)) != 0 || Len(f) != 0 {
		t.Errorf("P7.1: May(%.120v): %v, of %d bytes, Len %d", f, May(f), len(Put(f)), Len(f))
	}
}

func TestFramesThatMayBe(t *testing.T) {
	for _, f := range frames() {
		if !May(f) {
			t.Errorf("P7.1: May(%.120v): false", f)
		}
	}
}

func TestFramesOfNoKindMayNotBe(t *testing.T) {
	there := map[int]bool{}
	for _, kind := range kinds() {
		there[kind] = true
	}
	for kind := -300; kind < 300; kind++ {
		if !there[kind] {
			expectNone(t, api.Frame{Kind: kind})
			expectNone(t, api.Frame{Kind: kind, N: 1})
		}
	}
	for _, shift := range []int{8, 16, 31, 32, 62, 63} {
		for _, kind := range kinds() {
			f := plain(kind)
			f.Kind |= 1 << shift
			expectNone(t, f)
		}
	}
}

func TestFramesPastABoundMayNotBe(t *testing.T) {
	for _, f := range tooMuch() {
		expectNone(t, f)
	}
}

func TestFramesWithFieldsOfOtherKindsMayNotBe(t *testing.T) {
	for _, kind := range kinds() {
		has := map[string]bool{}
		for _, name := range ownFields(kind) {
			has[name] = true
		}
		for name, all := range fills() {
			for _, fill := range all {
				f := plain(kind)
				fill(&f)
				if !has[name] {
					expectNone(t, f)
				}
			}
		}
	}
}

func TestEmptyListsAreNone(t *testing.T) {
	for _, kind := range kinds() {
		f, g := plain(kind), plain(kind)
		for _, list := range []*[]byte{&g.Data, &g.CID, &g.Token} {
			if *list == nil {
				*list = []byte{}
			}
		}
		if g.Ranges == nil {
			g.Ranges = []api.Range{}
		}
		if !May(g) || !Same(f, g) || !Same(g, f) || !bytes.Equal(Put(f), Put(g)) {
			t.Errorf("P7.1: kind %d with empty lists: %v, %x", kind, May(g), Put(g))
		}
	}
}

// number is n as a varint of so many bytes.
func number(n uint64, size int) []byte {
	b := binary.BigEndian.AppendUint64(nil, n)[8-size:]
	b[0] |= map[int]byte{1: 0, 2: 0x40, 4: 0x80, 8: 0xc0}[size]
	return b
}

// shortest is n as a varint of as few bytes as may be.
func shortest(n uint64) []byte {
	switch {
	case n < 1<<6:
		return number(n, 1)
	case n < 1<<14:
		return number(n, 2)
	case n < 1<<30:
		return number(n, 4)
	}
	return number(n, 8)
}

// ruledNumbers are the numbers of a frame, in the order in which they stand behind its kind, and what stands behind them.
func ruledNumbers(f api.Frame) ([]uint64, []byte) {
	switch f.Kind {
	case api.Ack:
		all := []uint64{f.Ranges[0].Hi, f.Delay, uint64(len(f.Ranges) - 1), f.Ranges[0].Hi - f.Ranges[0].Lo}
		for i := 1; i < len(f.Ranges); i++ {
			all = append(all, f.Ranges[i-1].Lo-f.Ranges[i].Hi-2, f.Ranges[i].Hi-f.Ranges[i].Lo)
		}
		return all, nil
	case api.Crypto:
		return []uint64{f.Offset, uint64(len(f.Data))}, f.Data
	case api.Stream:
		return []uint64{f.ID, f.Offset, uint64(len(f.Data))}, f.Data
	case api.MaxData, api.RetireCID:
		return []uint64{f.N}, nil
	case api.NewCID:
		return []uint64{f.N, 0}, bytes.Join([][]byte{{8}, f.CID, f.Token}, nil)
	case api.Challenge, api.Response:
		return nil, f.Data
	case api.Close:
		return []uint64{f.N, 0, 0}, nil
	}
	return nil, nil
}

// ruledPut is a frame's bytes by the rule.
func ruledPut(f api.Frame) []byte {
	if f.Kind == api.Padding {
		return make([]byte, f.N)
	}
	b := []byte{byte(f.Kind)}
	if f.Kind == api.Stream {
		b[0] = 0x0e
		if f.Fin {
			b[0] = 0x0f
		}
	}
	numbers, behind := ruledNumbers(f)
	for _, n := range numbers {
		b = append(b, shortest(n)...)
	}
	return append(b, behind...)
}

// fault is what stops a reading by the rule.
type fault struct{ code api.Errno }

// ruledGet reads a frame by the rule, place by place, and stops where something is wrong.
func ruledGet(b []byte) (f api.Frame, at int, code api.Errno) {
	defer func() {
		if wrong, ok := recover().(fault); ok {
			f, at, code = api.Frame{}, 0, wrong.code
		}
	}()
	must := func(ok bool, code api.Errno) {
		if !ok {
			panic(fault{code})
		}
	}
	take := func(n int) []byte {
		must(n <= len(b)-at, api.ErrShort)
		at += n
		return bytes.Clone(b[at-n : at])
	}
	next := func() int64 {
		must(at < len(b), api.ErrShort)
		read := take(1 << (b[at] >> 6))
		read[0] &= 0x3f
		return int64(binary.BigEndian.Uint64(append(make([]byte, 8-len(read)), read...)))
	}
	piece := func() {
		offset, size := next(), next()
		must(size < 1<<14 && offset+size < 1<<62, api.ErrForm)
		f.Offset, f.Data = uint64(offset), take(int(size))
	}
	kind := take(1)[0]
	f.Kind = int(kind)
	switch kind {
	case 0x00:
		for at < len(b) && b[at] == 0 && at < 1<<14 {
			at++
		}
		f.N = uint64(at)
	case 0x01, 0x1e:
	case 0x02:
		ruledAck(&f, next, must)
	case 0x06:
		piece()
	case 0x0e, 0x0f:
		f.Kind, f.Fin, f.ID = api.Stream, kind == 0x0f, uint64(next())
		piece()
	case 0x10, 0x19:
		f.N = uint64(next())
	case 0x18:
		f.N = uint64(next())
		must(next() == 0, api.ErrForm)
		must(take(1)[0] == 8, api.ErrForm)
		f.CID, f.Token = take(8), take(16)
	case 0x1a, 0x1b:
		f.Data = take(8)
	case 0x1c:
		f.N = uint64(next())
		must(next() == 0, api.ErrForm)
		must(next() == 0, api.ErrForm)
	default:
		must(false, api.ErrKind)
	}
	return f, at, api.OK
}

// ruledAck reads what an Ack has behind its kind, with signs, so that what is below 0 is to be seen.
func ruledAck(f *api.Frame, next func() int64, must func(bool, api.Errno)) {
	hi := next()
	f.Delay = uint64(next())
	more := next()
	must(more <= api.MaxRanges-1, api.ErrForm)
	for {
		lo := hi - next()
		must(lo >= 0, api.ErrForm)
		f.Ranges = append(f.Ranges, api.Range{Lo: uint64(lo), Hi: uint64(hi)})
		if more == 0 {
			return
		}
		more--
		hi = lo - next() - 2
		must(hi >= 0, api.ErrForm)
	}
}

// equal holds frames against each other, field by field; nil and empty are the same.
func equal(f, g api.Frame) bool {
	for _, h := range []*api.Frame{&f, &g} {
		h.Ranges = append([]api.Range(nil), h.Ranges...)
		h.Data, h.CID, h.Token = append([]byte(nil), h.Data...), append([]byte(nil), h.CID...), append([]byte(nil), h.Token...)
	}
	return reflect.DeepEqual(f, g)
}

// expectGet says what Get answers.
func expectGet(t *testing.T, b []byte, want api.Frame, size int, code api.Errno) {
	t.Helper()
	f, n, e := Get(b)
	if !equal(f, want) || n != size || e != code {
		t.Errorf("P7.2: Get(%.80x): %.120v, %d, %d, want %.120v, %d, %d", b, f, n, e, want, size, code)
	}
}

// expectFault says that Get answers nothing but a code.
func expectFault(t *testing.T, b []byte, code api.Errno) {
	t.Helper()
	expectGet(t, b, api.Frame{}, 0, code)
}

// expectRuled says that Get answers what the rule does.
func expectRuled(t *testing.T, b []byte) {
	t.Helper()
	f, size, code := ruledGet(b)
	expectGet(t, b, f, size, code)
}

func TestPutOfKnownFrames(t *testing.T) {
	for _, c := range []struct {
		f api.Frame
		b string
	}{
		{api.Frame{Kind: api.Ping}, "\x01"},
		{api.Frame{Kind: api.Done}, "\x1e"},
		{api.Frame{Kind: api.Padding, N: 1}, "\x00"},
		{api.Frame{Kind: api.Padding, N: 4}, "\x00\x00\x00\x00"},
		{api.Frame{Kind: api.Ack, Delay: 70, Ranges: spans(500, 600, 90, 98, 4, 4)}, "\x02\x42\x58\x40\x46\x02\x40\x64\x41\x90\x08\x40\x54\x00"},
		{api.Frame{Kind: api.Ack, Ranges: spans(3, 3, 0, 1)}, "\x02\x03\x00\x01\x00\x00\x01"},
		{api.Frame{Kind: api.Ack, Ranges: spans(0, 0)}, "\x02\x00\x00\x00\x00"},
		{api.Frame{Kind: api.Crypto, Offset: 1 << 14, Data: []byte("abc")}, "\x06\x80\x00\x40\x00\x03abc"},
		{api.Frame{Kind: api.Crypto}, "\x06\x00\x00"},
		{api.Frame{Kind: api.Stream, ID: 64, Offset: 5, Data: []byte("de")}, "\x0e\x40\x40\x05\x02de"},
		{api.Frame{Kind: api.Stream, ID: 64, Offset: 5, Data: []byte("de"), Fin: true}, "\x0f\x40\x40\x05\x02de"},
		{api.Frame{Kind: api.Stream}, "\x0e\x00\x00\x00"},
		{api.Frame{Kind: api.Stream, Fin: true}, "\x0f\x00\x00\x00"},
		{api.Frame{Kind: api.MaxData, N: 4096}, "\x10\x50\x00"},
		{api.Frame{Kind: api.RetireCID, N: 63}, "\x19\x3f"},
		{api.Frame{Kind: api.NewCID, N: 64, CID: []byte("12345678"), Token: []byte("abcdefghijklmnop")}, "\x18\x40\x40\x00\x0812345678abcdefghijklmnop"},
		{api.Frame{Kind: api.Challenge, Data: []byte("12345678")}, "\x1a12345678"},
		{api.Frame{Kind: api.Response, Data: []byte("12345678")}, "\x1b12345678"},
		{api.Frame{Kind: api.Close}, "\x1c\x00\x00\x00"},
		{api.Frame{Kind: api.Close, N: api.MaxVar}, "\x1c\xff\xff\xff\xff\xff\xff\xff\xff\x00\x00"},
	} {
		if got := Put(c.f); string(got) != c.b || Len(c.f) != len(c.b) {
			t.Errorf("P7.1: Put(%v): %x, want %x, Len %d", c.f, got, c.b, Len(c.f))
		}
		expectGet(t, []byte(c.b), c.f, len(c.b), api.OK)
	}
}

func TestPutLaysEachPart(t *testing.T) {
	for _, f := range frames() {
		want := ruledPut(f)
		if got := Put(f); !bytes.Equal(got, want) {
			t.Errorf("P7.1: Put(%.120v): %.80x, want %.80x", f, got, want)
		}
		if got := Len(f); got != len(want) {
			t.Errorf("P7.2: Len(%.120v): %d, want %d", f, got, len(want))
		}
	}
}

func TestWhatIsLaidIsReadAgain(t *testing.T) {
	for _, f := range frames() {
		b := Put(f)
		expectGet(t, b, f, len(b), api.OK)
		for _, behind := range [][]byte{{1}, {3}, {255}, {1, 0, 0}, sample(40)} {
			expectGet(t, append(bytes.Clone(b), behind...), f, len(b), api.OK)
		}
		// Zeros behind zeros are of the same frame, up to the most.
		if f.Kind != api.Padding {
			expectGet(t, append(bytes.Clone(b), 0, 0), f, len(b), api.OK)
		}
	}
}

func TestGetCutAtEachByte(t *testing.T) {
	expectFault(t, nil, api.ErrShort)
	expectFault(t, []byte{}, api.ErrShort)
	for _, f := range frames() {
		b := Put(f)
		if len(b) > 100 {
			continue
		}
		for k := range b {
			if f.Kind == api.Padding && k > 0 {
				expectGet(t, b[:k], api.Frame{Kind: api.Padding, N: uint64(k)}, k, api.OK)
			} else {
				expectFault(t, b[:k], api.ErrShort)
			}
		}
	}
}

func TestGetOfLongDataCut(t *testing.T) {
	for _, kind := range []int{api.Crypto, api.Stream} {
		b := Put(api.Frame{Kind: kind, Data: sample(1<<14 - 1)})
		for _, k := range []int{3, 5, 6, 100, len(b) - 2, len(b) - 1} {
			expectFault(t, b[:k], api.ErrShort)
		}
	}
}

// turned calls do with b, each byte of it in turn each other one.
func turned(b []byte, do func(b []byte)) {
	for i := range b {
		for by := 1; by < 256; by++ {
			c := bytes.Clone(b)
			c[i] ^= byte(by)
			do(c)
		}
	}
}

func TestGetWithEachByteTurned(t *testing.T) {
	for _, kind := range kinds() {
		f := plain(kind)
		turned(Put(f), func(b []byte) {
			expectRuled(t, b)
			expectRuled(t, append(bytes.Clone(b), sample(30)...))
			if got, _, code := Get(b); code == api.OK && Same(got, f) {
				t.Errorf("P7.2: Get(%x): as if nothing were turned", b)
			}
		})
	}
}

func TestGetOfTurnedBytesCutAtEachByte(t *testing.T) {
	for _, kind := range kinds() {
		b := Put(plain(kind))
		turned(b[:min(len(b), 14)], func(head []byte) {
			whole := append(bytes.Clone(head), b[len(head):]...)
			for k := range whole {
				expectRuled(t, whole[:k])
			}
		})
	}
}

func TestWhatIsReadMayBe(t *testing.T) {
	some := []byte{0, 1, 2, 3, 6, 8, 0x0e, 0x0f, 0x10, 0x18, 0x1c, 0x40, 0x80, 0xff}
	for _, first := range []byte{0, 2, 6, 0x0e, 0x10, 0x19, 0x1c} {
		for n := range len(some) * len(some) * len(some) * len(some) {
			b := []byte{first}
			for rest := n; len(b) < 5; rest /= len(some) {
				b = append(b, some[rest%len(some)])
			}
			expectRuled(t, b)
			f, size, code := Get(b)
			if code == api.OK && (!May(f) || Len(f) > size) {
				t.Fatalf("P7.2: Get(%x): %v, May %v, Len %d of %d", b, f, May(f), Len(f), size)
			}
		}
	}
}

func TestGetOfEachFirstByte(t *testing.T) {
	there := map[int]bool{0x0e: true, 0x0f: true}
	for _, kind := range kinds() {
		there[kind] = kind != api.Stream
	}
	for first := range 256 {
		for _, behind := range [][]byte{nil, {0}, {1}, make([]byte, 40), sample(40)} {
			b := append([]byte{byte(first)}, behind...)
			expectRuled(t, b)
			if _, _, code := Get(b); (code == api.ErrKind) == there[first] {
				t.Errorf("P7.2: Get(%.20x): %d", b, code)
			}
		}
	}
}

func TestGetOfKindsOfLongerVarints(t *testing.T) {
	for _, f := range frames() {
		b := Put(f)
		for _, size := range []int{2, 4, 8} {
			longer := append(number(uint64(b[0]), size), b[1:]...)
			expectFault(t, longer, api.ErrKind)
			// Its first byte is enough to tell.
			expectFault(t, longer[:1], api.ErrKind)
		}
	}
}

func TestGetOfLongerNumbers(t *testing.T) {
	for _, f := range frames() {
		numbers, behind := ruledNumbers(f)
		if f.Kind == api.Padding || len(f.Data) > 100 {
			continue
		}
		for _, size := range []int{2, 4, 8} {
			b := Put(f)[:1]
			for _, n := range numbers {
				b = append(b, number(n, max(size, len(shortest(n))))...)
			}
			b = append(b, behind...)
			expectGet(t, b, f, len(b), api.OK)
			expectGet(t, append(bytes.Clone(b), 1, 2), f, len(b), api.OK)
			for k := 1; k < len(b); k++ {
				expectFault(t, b[:k], api.ErrShort)
			}
		}
	}
}

func TestTheLengthOfANameIsOneByte(t *testing.T) {
	f := plain(api.NewCID)
	behind := append(bytes.Clone(f.CID), f.Token...)
	for size := range 256 {
		b := append([]byte{0x18, 5, 0, byte(size)}, behind...)
		if size == 8 {
			expectGet(t, b, f, len(b), api.OK)
		} else {
			expectFault(t, b, api.ErrForm)
			expectFault(t, b[:4], api.ErrForm)
		}
	}
	expectFault(t, append([]byte{0x18, 5, 0, 0x40, 8}, behind...), api.ErrForm)
}

func TestGetTellsWhatIsComeTo(t *testing.T) {
	all := bytes.Repeat([]byte{255}, 8) // MaxVar
	from := func(parts ...[]byte) []byte { return bytes.Join(parts, nil) }
	for _, c := range []struct {
		b    []byte
		code api.Errno
	}{
		// An Ack: how many ranges, ahead of how long the first one is.
		{[]byte{2, 5, 0, 7}, api.ErrShort}, {[]byte{2, 5, 0, 8}, api.ErrForm}, {[]byte{2, 5, 0, 8, 6}, api.ErrForm},
		{[]byte{2, 5, 0, 0x40}, api.ErrShort}, {from([]byte{2, 5, 0}, all), api.ErrForm},
		{[]byte{2, 5, 0, 1, 6}, api.ErrForm}, {[]byte{2, 5, 0, 0, 6}, api.ErrForm}, {[]byte{2, 5, 0, 1, 5}, api.ErrShort},
		{from([]byte{2, 5, 0, 0}, all), api.ErrForm}, {from([]byte{2, 5, 0, 1, 0}, all), api.ErrForm}, {from([]byte{2, 5, 0, 1, 0, 1}, all), api.ErrForm},
		// A range behind it: from its Hi below 0 on there is none.
		{[]byte{2, 5, 0, 1, 0, 3}, api.ErrShort}, {[]byte{2, 5, 0, 1, 0, 4}, api.ErrForm}, {[]byte{2, 5, 0, 1, 0, 4, 0}, api.ErrForm},
		{[]byte{2, 5, 0, 1, 4}, api.ErrShort}, {[]byte{2, 5, 0, 1, 4, 0}, api.ErrForm}, {[]byte{2, 5, 0, 1, 5, 0}, api.ErrForm},
		{[]byte{2, 5, 0, 1, 0, 2, 2}, api.ErrForm}, {[]byte{2, 9, 0, 2, 0, 0, 0, 0, 0}, api.OK}, {[]byte{2, 9, 0, 2, 0, 0, 0, 6}, api.ErrForm},
		// Data: a length that may not be, ahead of how many bytes are there.
		{[]byte{6, 0, 0x7f, 0xff}, api.ErrShort}, {[]byte{6, 0, 0x80, 0, 0x40, 0}, api.ErrForm}, {from([]byte{6, 0}, all), api.ErrForm},
		{[]byte{6, 0, 0x80, 0, 0x40}, api.ErrShort}, {from([]byte{6}, all, []byte{0}), api.OK}, {from([]byte{6}, all, []byte{1}), api.ErrForm},
		{from([]byte{6}, all[1:], []byte{254, 1}), api.ErrShort}, {from([]byte{6}, all[1:], []byte{254, 2}), api.ErrForm}, {from([]byte{6}, all, all), api.ErrForm},
		{[]byte{14, 0, 0, 0x7f, 0xff}, api.ErrShort}, {[]byte{14, 0, 0, 0x80, 0, 0x40, 0}, api.ErrForm}, {from([]byte{15, 0, 0}, all), api.ErrForm},
		{from([]byte{15, 0}, all, []byte{0}), api.OK}, {from([]byte{15, 0}, all, []byte{1}), api.ErrForm}, {from([]byte{14}, all, all, []byte{0}), api.OK},
		{from([]byte{14}, all, all, []byte{1, 1}), api.ErrForm}, {from([]byte{14, 0}, all[1:], []byte{254, 2, 1, 1}), api.ErrForm},
		// A retire number, ahead of a name's length.
		{[]byte{0x18, 1, 0}, api.ErrShort}, {[]byte{0x18, 1, 1}, api.ErrForm}, {[]byte{0x18, 9, 9, 7}, api.ErrForm}, {[]byte{0x18, 9, 0x40}, api.ErrShort},
		{[]byte{0x18, 9, 0x40, 1}, api.ErrForm}, {[]byte{0x18, 1, 0, 7}, api.ErrForm}, {[]byte{0x18, 1, 0, 8}, api.ErrShort}, {[]byte{0x18, 1, 0, 0}, api.ErrForm},
		// A Close's kind, ahead of its reason's length.
		{[]byte{0x1c, 5}, api.ErrShort}, {[]byte{0x1c, 5, 1}, api.ErrForm}, {[]byte{0x1c, 5, 0}, api.ErrShort}, {[]byte{0x1c, 5, 0, 1}, api.ErrForm},
		{[]byte{0x1c, 5, 0, 0x40, 1}, api.ErrForm}, {[]byte{0x1c, 5, 0, 1, 'a'}, api.ErrForm}, {[]byte{0x1c, 5, 0x40}, api.ErrShort}, {from([]byte{0x1c, 5}, all), api.ErrForm},
	} {
		expectRuled(t, c.b)
		if f, n, e := Get(c.b); e != c.code || e != api.OK && (n != 0 || !equal(f, api.Frame{})) {
			t.Errorf("P7.2: Get(%x): %v, %d, %d, want %d", c.b, f, n, e, c.code)
		}
	}
}

func TestGetOfZeros(t *testing.T) {
	for _, c := range []struct{ zeros, size int }{
		{1, 1}, {2, 2}, {63, 63}, {256, 256}, {1<<14 - 1, 1<<14 - 1}, {1 << 14, 1 << 14}, {1<<14 + 1, 1 << 14}, {1 << 15, 1 << 14}, {1 << 20, 1 << 14},
	} {
		b := make([]byte, c.zeros)
		f := api.Frame{Kind: api.Padding, N: uint64(c.size)}
		expectGet(t, b, f, c.size, api.OK)
		expectGet(t, append(b, 1), f, c.size, api.OK)
		expectGet(t, append(b, 0x40), f, c.size, api.OK)
	}
}

// expectAll says what All answers.
func expectAll(t *testing.T, b []byte, want []api.Frame, code api.Errno) {
	t.Helper()
	got, e := All(b)
	if e != code || len(got) != len(want) {
		t.Errorf("P7.2: All(%.80x): %d frames, %d, want %d, %d", b, len(got), e, len(want), code)
		return
	}
	for i, f := range got {
		if !equal(f, want[i]) {
			t.Errorf("P7.2: All(%.80x), the %d-th: %.120v, want %.120v", b, i, f, want[i])
		}
	}
}

func TestAllOfRows(t *testing.T) {
	var row []api.Frame
	var b []byte
	for _, kind := range kinds() {
		row = append(row, plain(kind))
		b = append(b, Put(plain(kind))...)
		expectAll(t, b, row, api.OK)
	}
	for i, f := range frames() {
		g := frames()[(i*7+3)%len(frames())]
		if f.Kind == api.Padding && g.Kind == api.Padding {
			continue
		}
		expectAll(t, Put(f), []api.Frame{f}, api.OK)
		expectAll(t, append(Put(f), Put(g)...), []api.Frame{f, g}, api.OK)
	}
}

func TestAllOfNothing(t *testing.T) {
	expectAll(t, nil, nil, api.ErrForm)
	expectAll(t, []byte{}, nil, api.ErrForm)
}

func TestAllOfZerosThatTouch(t *testing.T) {
	zeros := func(n uint64) api.Frame { return api.Frame{Kind: api.Padding, N: n} }
	ping := api.Frame{Kind: api.Ping}
	expectAll(t, append(Put(zeros(3)), Put(zeros(4))...), []api.Frame{zeros(7)}, api.OK)
	expectAll(t, []byte{0, 1, 0, 0, 1}, []api.Frame{zeros(1), ping, zeros(2), ping}, api.OK)
	expectAll(t, make([]byte, 1<<14), []api.Frame{zeros(1 << 14)}, api.OK)
	expectAll(t, make([]byte, 1<<14+1), []api.Frame{zeros(1 << 14), zeros(1)}, api.OK)
	expectAll(t, append(make([]byte, 1<<15+5), 1), []api.Frame{zeros(1 << 14), zeros(1 << 14), zeros(5), ping}, api.OK)
	// The zeros that end a frame are its own.
	expectAll(t, []byte{0x1c, 5, 0, 0, 0, 0}, []api.Frame{{Kind: api.Close, N: 5}, zeros(2)}, api.OK)
}

func TestAllOfAsManyAsMayBe(t *testing.T) {
	for _, f := range []api.Frame{{Kind: api.Ping}, {Kind: api.MaxData, N: 70}, plain(api.Ack), plain(api.Stream)} {
		var row []api.Frame
		var b []byte
		for len(row) < api.MaxFrames {
			row = append(row, f)
			b = append(b, Put(f)...)
		}
		expectAll(t, b, row, api.OK)
		// One more begins, whatever it is.
		for _, more := range [][]byte{{1}, {0}, {3}, {2}, {0x40}, {255}, {0x1c, 5, 1}, Put(f)} {
			expectAll(t, append(bytes.Clone(b), more...), nil, api.ErrLong)
		}
		// One fewer, and one that is none: Get's code.
		short := b[:len(b)-len(Put(f))]
		expectAll(t, append(bytes.Clone(short), 3), nil, api.ErrKind)
		expectAll(t, append(bytes.Clone(short), 2), nil, api.ErrShort)
		expectAll(t, append(bytes.Clone(short), 0x1c, 5, 1), nil, api.ErrForm)
	}
	full := make([]byte, api.MaxFrames<<14)
	if all, code := All(full); len(all) != api.MaxFrames || code != api.OK {
		t.Errorf("P7.2: All of %d zeros: %d frames, %d", len(full), len(all), code)
	}
	expectAll(t, append(full, 0), nil, api.ErrLong)
}

func TestAllTellsTheFirstFault(t *testing.T) {
	for _, c := range []struct {
		b    []byte
		code api.Errno
	}{
		{[]byte{3}, api.ErrKind}, {[]byte{0x40, 1}, api.ErrKind}, {[]byte{1, 3, 2}, api.ErrKind}, {[]byte{1, 2}, api.ErrShort},
		{[]byte{1, 0, 0x1c, 5, 1, 3}, api.ErrForm}, {[]byte{0x10, 0x40}, api.ErrShort}, {[]byte{6, 0, 3, 1, 1}, api.ErrShort},
		{append([]byte{3}, bytes.Repeat([]byte{1}, 2*api.MaxFrames)...), api.ErrKind},
		{append(append(bytes.Repeat([]byte{1}, api.MaxFrames-1), 3), bytes.Repeat([]byte{1}, 9)...), api.ErrKind},
	} {
		expectAll(t, c.b, nil, c.code)
	}
}

func TestWhichAskForAnAnswer(t *testing.T) {
	for _, f := range frames() {
		want := f.Kind != api.Padding && f.Kind != api.Ack && f.Kind != api.Close
		if got := Eliciting(f); got != want {
			t.Errorf("P7.2: Eliciting(%.120v): %v", f, got)
		}
	}
	for _, kind := range []int{api.Padding, api.Ack, api.Close} {
		if Eliciting(api.Frame{Kind: kind, Fin: true, ID: 7}) {
			t.Errorf("P7.2: Eliciting of kind %d hangs on more than it", kind)
		}
	}
	for _, kind := range []int{-1, 3, 0x1d, 64, 258} {
		if !Eliciting(api.Frame{Kind: kind}) {
			t.Errorf("P7.2: Eliciting of kind %d: false: it is none of the three", kind)
		}
	}
}

func TestSameOfEachPair(t *testing.T) {
	some := frames()
	for i, f := range some {
		if !Same(f, copied(f)) {
			t.Errorf("P7.2: Same(%.120v, itself): false", f)
		}
		for k := i + 1; k < len(some) && k < i+40; k++ {
			if got := Same(f, some[k]); got != equal(f, some[k]) || got != Same(some[k], f) {
				t.Errorf("P7.2: Same(%.120v, %.120v): %v", f, some[k], got)
			}
		}
	}
}

func TestSameOfEachFieldAnother(t *testing.T) {
	every := api.Frame{
		Kind: 77, N: 5, Delay: 6, Ranges: falling(4), ID: 8, Offset: 9, Fin: true,
		Data: sample(10), CID: sample(8), Token: sample(16),
	}
	changes := []func(f *api.Frame){
		func(f *api.Frame) { f.Kind++ }, func(f *api.Frame) { f.Kind = -f.Kind },
		func(f *api.Frame) { f.N ^= 1 << 63 }, func(f *api.Frame) { f.Delay ^= 1 << 63 },
		func(f *api.Frame) { f.ID ^= 1 << 63 }, func(f *api.Frame) { f.Offset ^= 1 << 63 },
		func(f *api.Frame) { f.N++ }, func(f *api.Frame) { f.Delay++ }, func(f *api.Frame) { f.ID++ }, func(f *api.Frame) { f.Offset++ },
		func(f *api.Frame) { f.Fin = !f.Fin },
		func(f *api.Frame) { f.Ranges = f.Ranges[:3] }, func(f *api.Frame) { f.Ranges = nil },
		func(f *api.Frame) { f.Ranges[3].Lo-- }, func(f *api.Frame) { f.Ranges[0].Hi++ },
		func(f *api.Frame) { f.Ranges[0], f.Ranges[1] = f.Ranges[1], f.Ranges[0] },
	}
	for _, list := range []func(f *api.Frame) *[]byte{
		func(f *api.Frame) *[]byte { return &f.Data },
		func(f *api.Frame) *[]byte { return &f.CID },
		func(f *api.Frame) *[]byte { return &f.Token },
	} {
		changes = append(changes,
			func(f *api.Frame) { *list(f) = nil },
			func(f *api.Frame) { (*list(f))[0]++ },
			func(f *api.Frame) { b := *list(f); b[len(b)-1]++ },
			func(f *api.Frame) { b := *list(f); *list(f) = b[:len(b)-1] },
			func(f *api.Frame) { *list(f) = append(*list(f), 0) })
	}
	for i, change := range changes {
		other := copied(every)
		change(&other)
		if Same(every, other) || Same(other, every) {
			t.Errorf("P7.2: Same, the %d-th change: true", i)
		}
	}
	if !Same(every, copied(every)) {
		t.Error("P7.2: Same of a frame that may not be, and itself: false")
	}
	for _, all := range fills() {
		for _, fill := range all {
			var f api.Frame
			fill(&f)
			if Same(f, api.Frame{}) || Same(api.Frame{}, f) || !Same(f, copied(f)) {
				t.Errorf("P7.2: Same(%v, none)", f)
			}
		}
	}
}

// copied is f in memory of its own, with spare room that is not 0.
func copied(f api.Frame) api.Frame {
	f.Ranges = append(append([]api.Range(nil), f.Ranges...), spans(7, 7, 5, 5)...)[:len(f.Ranges)]
	f.Data, f.CID, f.Token = roomy(f.Data), roomy(f.CID), roomy(f.Token)
	return f
}

// roomy is b in memory of its own, with spare room that is not 0.
func roomy(b []byte) []byte {
	return append(bytes.Clone(b), bytes.Repeat([]byte{0xaa}, 9)...)[:len(b)]
}

// whole is f with its lists' spare room.
func whole(f api.Frame) api.Frame {
	f.Ranges = f.Ranges[:len(f.Ranges)+2]
	f.Data, f.CID, f.Token = f.Data[:len(f.Data)+9], f.CID[:len(f.CID)+9], f.Token[:len(f.Token)+9]
	return f
}

func TestNothingIsChanged(t *testing.T) {
	for _, f := range append(frames(), tooMuch()...) {
		given, kept := copied(f), whole(copied(f))
		May(given)
		b := Put(given)
		Len(given)
		Eliciting(given)
		Same(given, f)
		if !reflect.DeepEqual(whole(given), kept) {
			t.Errorf("R4: %.120v was changed", f)
		}
		b = roomy(append(b, 1))
		all := bytes.Clone(b[:len(b)+9])
		Get(b)
		All(b)
		if !bytes.Equal(b[:len(b)+9], all) {
			t.Errorf("R4: Get or All changed %.80x", all)
		}
	}
}

// overwrite spoils all of b, its spare room too.
func overwrite(b []byte) {
	for i := range b[:cap(b)] {
		b[:cap(b)][i] = 0xee
	}
}

// spoil overwrites all that f's lists hold.
func spoil(f api.Frame) {
	for _, b := range [][]byte{f.Data, f.CID, f.Token} {
		overwrite(b)
	}
	for i := range f.Ranges[:cap(f.Ranges)] {
		f.Ranges[:cap(f.Ranges)][i] = api.Range{Lo: 9, Hi: 8}
	}
}

func TestNothingIsShared(t *testing.T) {
	for _, kind := range kinds() {
		want := plain(kind)
		laid := ruledPut(want)
		given := plain(kind)
		first, second := Put(given), Put(given)
		spoil(given)
		overwrite(first)
		if !bytes.Equal(second, laid) {
			t.Errorf("R4: Put of kind %d shares memory: %x", kind, second)
		}
		b := roomy(append(bytes.Clone(laid), 1))
		f, _, _ := Get(b)
		g, _, _ := Get(b)
		spoil(f)
		if !equal(g, want) || !bytes.Equal(b, append(bytes.Clone(laid), 1)) {
			t.Errorf("R4: two answers of Get share memory, or with what was given: %v, %x", g, b)
		}
		overwrite(b)
		if !equal(g, want) {
			t.Errorf("R4: Get's answer shares memory with what was given: %v", g)
		}
	}
}

func TestListsOfOneAnswerShareNothing(t *testing.T) {
	var b []byte
	var row []api.Frame
	for range 3 {
		for _, kind := range kinds() {
			row = append(row, plain(kind))
			b = append(b, Put(plain(kind))...)
		}
	}
	for i := range row {
		got, _ := All(b)
		spoil(got[i])
		for k, f := range got {
			if k != i && !equal(f, row[k]) {
				t.Errorf("R4: the %d-th and the %d-th of All share memory", i, k)
			}
		}
	}
	f, _, _ := Get(Put(plain(api.NewCID)))
	overwrite(f.CID)
	if !bytes.Equal(f.Token, plain(api.NewCID).Token) {
		t.Errorf("R4: a name and its token share memory: %x", f.Token)
	}
}

func TestManyAtOneTime(t *testing.T) {
	given := frames()[:60]
	var all sync.WaitGroup
	for range 8 {
		all.Go(func() {
			for _, f := range given {
				b := Put(f)
				got, n, code := Get(b)
				if !Same(got, f) || n != Len(f) || code != api.OK {
					t.Errorf("R5: Put and Get of %.120v", f)
				}
			}
		})
	}
	all.Wait()
}
