package cids

import (
	"bytes"
	"fmt"
	"math"
	"math/rand"
	"slices"
	"strings"
	"sync"
	"testing"

	"mantilla/api"
)

const low, high = math.MinInt, math.MaxInt

// cidOf is a name's bytes, tokenOf a token's, of a letter.
func cidOf(c byte) []byte   { return bytes.Repeat([]byte{c}, api.CIDLen) }
func tokenOf(c byte) []byte { return bytes.Repeat([]byte{c}, api.TagLen) }

// given is a name that was added; the token of the first is nil.
type given struct {
	seq        uint64
	cid, token []byte
}

// told is a name that For answered a path.
type told struct {
	path int
	seq  uint64
}

// ruled keeps all that was added, all that paths were told, and all that was told of as retired, and looks it all through as the promise's sentences do.
type ruled struct {
	names   []given
	told    []told
	retired []uint64
}

func newRuled(first []byte) *ruled {
	return &ruled{names: []given{{cid: bytes.Clone(first)}}}
}

// owner is the path that has the name of that number, or -1.
func (r *ruled) owner(seq uint64) int {
	for _, x := range r.told {
		if x.seq == seq {
			return x.path
		}
	}
	if seq == 0 {
		return 0
	}
	return -1
}

func (r *ruled) use() int {
	if len(r.told) == 0 {
		return 0
	}
	return r.told[len(r.told)-1].path
}

func (r *ruled) free() int {
	n := 0
	for _, x := range r.names {
		if r.owner(x.seq) < 0 {
			n++
		}
	}
	return n
}

func (r *ruled) add(seq uint64, cid []byte, token []byte) api.Errno {
	if len(cid) != 8 || len(token) != 16 {
		return api.ErrForm
	}
	for _, x := range r.names {
		sameSeq, sameCID := x.seq == seq, bytes.Equal(x.cid, cid)
		sameToken := x.token != nil && bytes.Equal(x.token, token)
		if sameSeq && sameCID && sameToken {
			return api.OK
		}
		if sameSeq || sameCID {
			return api.ErrClash
		}
	}
	if r.free() == 8 {
		return api.ErrFull
	}
	r.names = append(r.names, given{seq, bytes.Clone(cid), bytes.Clone(token)})
	return api.OK
}

func (r *ruled) path(path int) ([]byte, bool) {
	if path < 0 {
		return nil, false
	}
	best := -1
	for i, x := range r.names {
		switch owner := r.owner(x.seq); {
		case owner == path:
			r.told = append(r.told, told{path, x.seq})
			return x.cid, true
		case owner < 0 && (best < 0 || x.seq < r.names[best].seq):
			best = i
		}
	}
	if best < 0 {
		return nil, false
	}
	r.told = append(r.told, told{path, r.names[best].seq})
	return r.names[best].cid, true
}

func (r *ruled) retire() []uint64 {
	var now []uint64
	for _, x := range r.names {
		if owner := r.owner(x.seq); owner >= 0 && owner != r.use() && !slices.Contains(r.retired, x.seq) {
			now = append(now, x.seq)
		}
	}
	slices.Sort(now)
	r.retired = append(r.retired, now...)
	return now
}

func (r *ruled) token(token []byte) bool {
	for _, x := range r.names {
		if x.token != nil && bytes.Equal(x.token, token) && r.owner(x.seq) >= 0 {
			return true
		}
	}
	return false
}

// String tells all that may be told apart of it.
func (r *ruled) String() string {
	var b strings.Builder
	for _, x := range r.sorted() {
		fmt.Fprintf(&b, "%d %x %x of %d, ", x.seq, x.cid, x.token, r.owner(x.seq))
	}
	gone := slices.Sorted(slices.Values(r.retired))
	fmt.Fprintf(&b, "in use %d, retired %v", r.use(), gone)
	return b.String()
}

func (r *ruled) sorted() []given {
	return slices.SortedFunc(slices.Values(r.names), func(x given, y given) int {
		if x.seq < y.seq {
			return -1
		}
		return 1
	})
}

// agree holds what can be asked of p without changing it against what is ruled.
func agree(t *testing.T, p *Pool, r *ruled, tokens [][]byte) {
	t.Helper()
	if got := p.Free(); got != r.free() {
		t.Fatalf("P14.1: Free: %d, not %d, of %v", got, r.free(), r)
	}
	for _, token := range tokens {
		if got := p.Token(token); got != r.token(token) {
			t.Fatalf("P14.1: Token(%x): %v, of %v", token, got, r)
		}
	}
}

// act is one call of Add, For or Retired.
type act struct {
	kind  int
	seq   uint64
	cid   []byte
	token []byte
	path  int
}

const (
	add = iota
	path
	retire
)

// do does the same to p and to what is ruled, and holds them against each other.
func (a act) do(t *testing.T, p *Pool, r *ruled) {
	t.Helper()
	before := r.String()
	switch a.kind {
	case add:
		if got, want := p.Add(a.seq, a.cid, a.token), r.add(a.seq, a.cid, a.token); got != want {
			t.Fatalf("P14.1: Add(%d, %x, %x): %d, not %d, of %s", a.seq, a.cid, a.token, got, want, before)
		}
	case path:
		got, ok := p.For(a.path)
		want, is := r.path(a.path)
		if ok != is || !bytes.Equal(got, want) {
			t.Fatalf("P14.1: For(%d): %x, %v, not %x, of %s", a.path, got, ok, want, before)
		}
	case retire:
		if got, want := p.Retired(), r.retire(); !slices.Equal(got, want) {
			t.Fatalf("P14.1: Retired: %v, not %v, of %s", got, want, before)
		}
	}
}

// play does all of acts to a fresh pool of the name of a.
func play(t *testing.T, acts []act) (*Pool, *ruled) {
	t.Helper()
	p, r := New(cidOf('a')), newRuled(cidOf('a'))
	for _, a := range acts {
		a.do(t, p, r)
	}
	return p, r
}

// smallActs are all acts of few numbers, names, tokens and paths.
func smallActs() []act {
	all := []act{{kind: retire}, {kind: path, path: -1}}
	for n := range 3 {
		all = append(all, act{kind: path, path: n})
	}
	for seq := range uint64(3) {
		for _, cid := range []byte("abc") {
			for _, token := range []byte{0, 'x'} {
				all = append(all, act{kind: add, seq: seq, cid: cidOf(cid), token: tokenOf(token)})
			}
		}
	}
	return all
}

// TestAllStates goes through all that pools of few names and paths can be, and does each small act in each.
func TestAllStates(t *testing.T) {
	acts := smallActs()
	tokens := [][]byte{nil, tokenOf(0), tokenOf('x'), tokenOf('y'), tokenOf('x')[:15]}
	seen := map[string][]act{newRuled(cidOf('a')).String(): nil}
	queue := []string{newRuled(cidOf('a')).String()}
	for len(queue) > 0 {
		before := seen[queue[0]]
		queue = queue[1:]
		for _, a := range acts {
			p, r := play(t, before)
			a.do(t, p, r)
			agree(t, p, r, tokens)
			is := r.String()
			if _, ok := seen[is]; !ok {
				seen[is] = append(before[:len(before):len(before)], a)
				queue = append(queue, is)
			}
		}
	}
	if len(seen) < 400 {
		t.Errorf("P14.1: only %d states", len(seen))
	}
}

// drawn is an act of somewhat more numbers and paths, and at times of what can be none.
func drawn(draw *rand.Rand, many int) act {
	a := act{kind: draw.Intn(3), path: draw.Intn(many) - 1}
	a.seq = uint64(draw.Intn(many))
	a.cid, a.token = cidOf(byte(a.seq)+'a'), tokenOf(byte(a.seq)/2)
	switch draw.Intn(12) {
	case 0:
		a.seq = uint64(draw.Intn(many))
	case 1:
		a.token = tokenOf(byte(draw.Intn(many)))
	case 2:
		a.cid = cidOf(byte(draw.Intn(many)) + 'a')
	case 3:
		a.cid = a.cid[:draw.Intn(8)]
	case 4:
		a.token = a.token[:draw.Intn(16)]
	case 5:
		a.seq = math.MaxUint64 - a.seq
		a.path = high - a.path
	}
	return a
}

func TestRuled(t *testing.T) {
	draw := rand.New(rand.NewSource(14))
	codes := map[api.Errno]int{}
	for i := range 600 {
		many := 3 + i%30
		p, r := play(t, nil)
		for range 120 {
			a := drawn(draw, many)
			// Names would else seldom wait in numbers.
			if a.kind == path && i%3 == 0 && draw.Intn(4) > 0 {
				a.kind = add
			}
			a.do(t, p, r)
			if a.kind == add {
				codes[p.Add(a.seq, a.cid, a.token)]++
			}
			agree(t, p, r, [][]byte{a.token, tokenOf(byte(draw.Intn(many)))})
		}
	}
	for _, e := range []api.Errno{api.OK, api.ErrForm, api.ErrClash, api.ErrFull} {
		if codes[e] < 100 {
			t.Errorf("P14.1: the code %d only %d times", e, codes[e])
		}
	}
}

func TestNew(t *testing.T) {
	for n := range 40 {
		p := New(make([]byte, n))
		if (p != nil) != (n == 8) {
			t.Errorf("P14.1: New of %d bytes: %v", n, p)
		}
	}
	if New(nil) != nil {
		t.Error("P14.1: New of none")
	}
	p := New([]byte("12345678"))
	if p.Free() != 0 || p.Token(make([]byte, 16)) || p.Token(nil) || len(p.Retired()) != 0 {
		t.Error("P14.1: a new pool")
	}
	if got, ok := p.For(0); !ok || string(got) != "12345678" {
		t.Errorf("P14.1: For(0) of a new pool: %q, %v", got, ok)
	}
	for _, n := range []int{low, -1, 1, 2, high} {
		if got, ok := p.For(n); ok || got != nil {
			t.Errorf("P14.1: For(%d) of one alone: %q, %v", n, got, ok)
		}
	}
}

func TestAddForm(t *testing.T) {
	p := New(cidOf('a'))
	for n := range 40 {
		for m := range 40 {
			want := api.ErrForm
			if n == 8 && m == 16 {
				want = api.OK
			}
			// What has no form is no clash either, even under a number that is there.
			if got := p.Add(1, make([]byte, n), make([]byte, m)); got != want {
				t.Errorf("P14.1: Add of %d and %d bytes: %d", n, m, got)
			}
		}
	}
	if p.Add(1, nil, nil) != api.ErrForm || p.Add(2, cidOf('a'), nil) != api.ErrForm || p.Add(0, nil, tokenOf('a')) != api.ErrForm || p.Free() != 1 {
		t.Error("P14.1: Add of none")
	}
}

// TestAddFirst asks of the first name that it clashes with all that comes, as none of it is without a token.
func TestAddFirst(t *testing.T) {
	for _, cid := range []byte{0, 'a'} {
		p := New(cidOf(cid))
		for _, token := range []byte{0, 'a', 'b'} {
			for _, seq := range []uint64{0, 1, 1 << 63, math.MaxUint64} {
				if got := p.Add(seq, cidOf(cid), tokenOf(token)); got != api.ErrClash {
					t.Errorf("P14.1: Add(%d) of the first name: %d", seq, got)
				}
			}
			if got := p.Add(0, cidOf('b'), tokenOf(token)); got != api.ErrClash {
				t.Errorf("P14.1: Add(0) of another name: %d", got)
			}
		}
		if p.Free() != 0 || p.Token(tokenOf(0)) || p.Token(tokenOf('a')) {
			t.Error("P14.1: what clashed is there")
		}
	}
}

// TestAddClash asks of a name that waits, that a path has, and that is retired.
func TestAddClash(t *testing.T) {
	p := New(cidOf('a'))
	p.Add(5, cidOf('b'), tokenOf('x'))
	p.Add(6, cidOf('c'), tokenOf('y'))
	asks := func(when string, free int) {
		t.Helper()
		for i, x := range []struct {
			seq   uint64
			cid   byte
			token byte
			e     api.Errno
		}{
			{5, 'b', 'x', api.OK}, {6, 'c', 'y', api.OK},
			{5, 'b', 'y', api.ErrClash}, {5, 'b', 0, api.ErrClash}, {5, 'd', 'x', api.ErrClash}, {5, 'd', 'z', api.ErrClash},
			{5, 'c', 'y', api.ErrClash}, {5, 'c', 'x', api.ErrClash}, {5, 'a', 'x', api.ErrClash},
			{7, 'b', 'x', api.ErrClash}, {7, 'b', 'z', api.ErrClash}, {6, 'b', 'x', api.ErrClash}, {0, 'b', 'x', api.ErrClash},
			{5 + 1<<32, 'b', 'x', api.ErrClash}, {math.MaxUint64, 'c', 'y', api.ErrClash},
		} {
			if got := p.Add(x.seq, cidOf(x.cid), tokenOf(x.token)); got != x.e || p.Free() != free {
				t.Errorf("P14.1: %s, the %d-th: %d, Free %d", when, i, got, p.Free())
			}
		}
	}
	asks("waiting", 2)
	p.For(1)
	asks("of a path", 1)
	p.For(2)
	p.Retired()
	asks("retired", 0)
}

// TestAddOneByte asks that names, and tokens, that differ in one bit alone are other ones.
func TestAddOneByte(t *testing.T) {
	for at := range 8 {
		p, cid := New(cidOf('a')), cidOf('a')
		cid[at] ^= 1
		if p.Add(1, cid, tokenOf('x')) != api.OK {
			t.Errorf("P14.1: a name that differs at %d", at)
		}
		if got, ok := p.For(9); !ok || !bytes.Equal(got, cid) {
			t.Errorf("P14.1: For: %q", got)
		}
	}
	p := New(cidOf('a'))
	p.Add(1, cidOf('b'), tokenOf('x'))
	p.For(1)
	for at := range 16 {
		token := tokenOf('x')
		token[at] ^= 1
		if p.Add(1, cidOf('b'), token) != api.ErrClash || p.Token(token) {
			t.Errorf("P14.1: a token that differs at %d", at)
		}
	}
}

func TestAddFull(t *testing.T) {
	p := New(cidOf('a'))
	for i := range uint64(8) {
		if got := p.Add(20-i, cidOf(byte('b'+i)), tokenOf('x')); got != api.OK || p.Free() != int(i)+1 {
			t.Fatalf("P14.1: Add, the %d-th: %d, Free %d", i, got, p.Free())
		}
	}
	for range 2 {
		if got := p.Add(40, cidOf('z'), tokenOf('z')); got != api.ErrFull || p.Free() != 8 {
			t.Errorf("P14.1: Add of a ninth: %d, Free %d", got, p.Free())
		}
	}
	if p.Add(20, cidOf('b'), tokenOf('x')) != api.OK || p.Add(20, cidOf('b'), tokenOf('z')) != api.ErrClash || p.Add(40, cidOf('b'), tokenOf('x')) != api.ErrClash || p.Add(0, cidOf('z'), tokenOf('z')) != api.ErrClash || p.Add(40, cidOf('z'), nil) != api.ErrForm {
		t.Error("P14.1: Add of what is there, of a full pool")
	}
	if p.For(0); p.Add(40, cidOf('z'), tokenOf('z')) != api.ErrFull {
		t.Error("P14.1: the path that has a name took another one")
	}
	// What was refused was not added: its number and its name are free for others.
	if got, ok := p.For(1); !ok || !bytes.Equal(got, cidOf('i')) || p.Free() != 7 {
		t.Errorf("P14.1: For(1) of a full pool: %q", got)
	}
	if p.Add(40, cidOf('y'), tokenOf('z')) != api.OK || p.Free() != 8 || p.Add(41, cidOf('z'), tokenOf('z')) != api.ErrFull {
		t.Error("P14.1: Add of another one of the number that was refused")
	}
	if p.For(2); p.Add(41, cidOf('z'), tokenOf('z')) != api.OK {
		t.Error("P14.1: Add of the name that was refused")
	}
}

// TestForLeast asks that the least number goes first, in whatever order names come, and never one below that went already twice.
func TestForLeast(t *testing.T) {
	p := New(cidOf('a'))
	order := []uint64{math.MaxUint64, 7, 1 << 63, 1<<63 - 1, 2, 1 << 32, 300}
	for i, seq := range order {
		p.Add(seq, cidOf(byte('b'+i)), tokenOf(byte('b'+i)))
	}
	// The names of 2, 7, 300, 2 to the 32nd, and so on.
	for i, want := range []byte("fchgedb") {
		if i == 3 {
			// One that comes late goes ahead of those that wait, if its number is less.
			p.Add(1, cidOf('y'), tokenOf('y'))
			if got, ok := p.For(high); !ok || !bytes.Equal(got, cidOf('y')) {
				t.Errorf("P14.1: For of one that came late: %q", got)
			}
		}
		if got, ok := p.For(100 - i); !ok || !bytes.Equal(got, cidOf(want)) {
			t.Errorf("P14.1: For, the %d-th: %q", i, got)
		}
	}
	for i, want := range []byte("fchgedb") {
		if got, ok := p.For(100 - i); !ok || !bytes.Equal(got, cidOf(want)) {
			t.Errorf("P14.1: For, the %d-th again: %q", i, got)
		}
	}
	if got := p.Retired(); !slices.Equal(got, []uint64{0, 1, 2, 7, 300, 1 << 32, 1<<63 - 1, 1 << 63}) {
		t.Errorf("P14.1: Retired: %v", got)
	}
	if p.For(0); !slices.Equal(p.Retired(), []uint64{math.MaxUint64}) {
		t.Error("P14.1: Retired, behind the last one in use")
	}
}

func TestForBelow(t *testing.T) {
	p := New(cidOf('a'))
	p.Add(1, cidOf('b'), tokenOf('b'))
	p.Add(2, cidOf('c'), tokenOf('c'))
	p.For(4)
	for _, n := range []int{-1, -2, -4, low, low + 4} {
		if got, ok := p.For(n); ok || got != nil || p.Free() != 1 {
			t.Errorf("P14.1: For(%d): %q, %v", n, got, ok)
		}
	}
	if got := p.Retired(); !slices.Equal(got, []uint64{0}) {
		t.Errorf("P14.1: Retired: %v: 4 is in use still", got)
	}
}

func TestToken(t *testing.T) {
	p := New(cidOf('a'))
	p.Add(1, cidOf('b'), tokenOf('x'))
	p.Add(2, cidOf('c'), tokenOf('x'))
	p.Add(3, cidOf('d'), tokenOf(0))
	asks := func(when string, x bool, zeros bool) {
		t.Helper()
		for n := range 40 {
			if got := p.Token(bytes.Repeat([]byte{'x'}, n)); got != (x && n == 16) {
				t.Errorf("P14.1: %s: Token of %d bytes: %v", when, n, got)
			}
			if got := p.Token(make([]byte, n)); got != (zeros && n == 16) {
				t.Errorf("P14.1: %s: Token of %d zeros: %v", when, n, got)
			}
		}
		if p.Token(nil) || p.Token(tokenOf('b')) || p.Token(cidOf('b')) {
			t.Errorf("P14.1: %s: Token of none", when)
		}
	}
	asks("at first", false, false)
	p.For(0)
	asks("path 0 in use", false, false)
	p.For(8)
	asks("a path has 1", true, false)
	p.For(9)
	asks("a path has 2", true, false)
	p.For(10)
	asks("a path has 3", true, true)
	p.Retired()
	p.For(0)
	p.Retired()
	asks("all are retired", true, true)
}

// TestRetired asks that each is told once, though it comes to be in use again.
func TestRetired(t *testing.T) {
	p := New(cidOf('a'))
	for i := range uint64(4) {
		p.Add(i+1, cidOf(byte('b'+i)), tokenOf('x'))
	}
	for i, x := range []struct {
		path int
		want []uint64
	}{
		{0, nil}, {1, []uint64{0}}, {1, nil}, {0, []uint64{1}}, {1, nil}, {0, nil},
		{5, nil}, {5, nil}, {-1, nil}, {6, []uint64{2}}, {7, []uint64{3}}, {8, nil}, {5, []uint64{4}}, {7, nil},
	} {
		p.For(x.path)
		if got := p.Retired(); !slices.Equal(got, x.want) || len(p.Retired()) != 0 {
			t.Errorf("P14.1: Retired, the %d-th, behind For(%d): %v", i, x.path, got)
		}
	}
}

// TestRetiredLate asks that all that were left come at once, rising, and that the one in use stays out.
func TestRetiredLate(t *testing.T) {
	for use, want := range [][]uint64{{3, 6, 9}, {0, 3, 6}, {0, 3, 9}, {0, 6, 9}} {
		p := New(cidOf('a'))
		p.Add(9, cidOf('b'), tokenOf('b'))
		p.For(1)
		p.Add(6, cidOf('c'), tokenOf('c'))
		p.For(2)
		p.Add(3, cidOf('d'), tokenOf('d'))
		p.For(3)
		p.Add(2, cidOf('e'), tokenOf('e'))
		p.For(use)
		if got := p.Retired(); !slices.Equal(got, want) || p.Free() != 1 {
			t.Errorf("P14.1: Retired, %d in use: %v", use, got)
		}
	}
}

func TestArgumentIsNotKept(t *testing.T) {
	first, cid, token := cidOf('a'), cidOf('b'), tokenOf('x')
	wide := append(make([]byte, 0, 64), cid...)
	p := New(first)
	p.Add(1, wide, token)
	p.Token(token)
	if !bytes.Equal(first, cidOf('a')) || !bytes.Equal(wide, cid) || !bytes.Equal(token, tokenOf('x')) || !bytes.Equal(wide[:64][8:], make([]byte, 56)) {
		t.Error("R4: an argument was changed")
	}
	clear(first)
	clear(wide)
	clear(token)
	if got, _ := p.For(0); !bytes.Equal(got, cidOf('a')) {
		t.Errorf("R4: For(0): %q", got)
	}
	if got, _ := p.For(1); !bytes.Equal(got, cidOf('b')) || !p.Token(tokenOf('x')) || p.Token(make([]byte, 16)) || p.Add(1, cidOf('b'), tokenOf('x')) != api.OK {
		t.Errorf("R4: For(1): %q", got)
	}
}

func TestAnswersAreTheCallersOwn(t *testing.T) {
	p := New(cidOf('a'))
	p.Add(1, cidOf('b'), tokenOf('x'))
	p.Add(2, cidOf('c'), tokenOf('x'))
	p.For(1)
	for n, want := range []byte("abc") {
		one, _ := p.For(n)
		other, _ := p.For(n)
		clear(one[:cap(one)])
		again, _ := p.For(n)
		if !bytes.Equal(other, cidOf(want)) || !bytes.Equal(again, cidOf(want)) {
			t.Errorf("R4: For(%d): %q, %q", n, other, again)
		}
	}
	gone := p.Retired()
	for i := range gone[:cap(gone)] {
		gone[:cap(gone)][i] = 77
	}
	p.Add(3, cidOf('d'), tokenOf('x'))
	p.For(3)
	if got := p.Retired(); !slices.Equal(got, []uint64{2}) || !slices.Equal(gone, []uint64{77, 77}) {
		t.Errorf("R4: Retired: %v, %v", got, gone)
	}
	if p.For(0); !slices.Equal(p.Retired(), []uint64{3}) {
		t.Error("R4: Retired, behind the last one in use")
	}
}

func TestPoolsAreApart(t *testing.T) {
	one, other := New(cidOf('a')), New(cidOf('a'))
	one.Add(1, cidOf('b'), tokenOf('b'))
	one.For(1)
	one.Retired()
	one.Add(2, cidOf('c'), tokenOf('c'))
	if other.Free() != 0 || other.Token(tokenOf('b')) || len(other.Retired()) != 0 || other.Add(1, cidOf('c'), tokenOf('c')) != api.OK {
		t.Error("R5: one hangs on another")
	}
	if got, ok := other.For(1); !ok || !bytes.Equal(got, cidOf('c')) || one.Token(tokenOf('c')) || one.Free() != 1 {
		t.Errorf("R5: another hangs on one: %q", got)
	}
}

func TestNil(t *testing.T) {
	p := New(nil)
	if p != nil {
		t.Fatal("P14.1: New(nil)")
	}
	for _, cid := range [][]byte{nil, cidOf('a'), cidOf('a')[:3]} {
		for _, token := range [][]byte{nil, tokenOf('a'), tokenOf('a')[:3]} {
			if p.Add(1, cid, token) != api.ErrNil || p.Token(token) {
				t.Errorf("R3: %q, %q", cid, token)
			}
		}
	}
	for _, n := range []int{low, -1, 0, 1, high} {
		if got, ok := p.For(n); ok || got != nil {
			t.Errorf("R3: For(%d): %q", n, got)
		}
	}
	if p.Retired() != nil || p.Free() != 0 {
		t.Error("R3: of none")
	}
}

func TestLimits(t *testing.T) {
	if api.CIDLen != 8 || api.TagLen != 16 {
		t.Errorf("api: %d, %d", api.CIDLen, api.TagLen)
	}
}

// numbered is the name, and the token, of a number.
func numbered(seq uint64) ([]byte, []byte) {
	cid, token := cidOf('n'), tokenOf('n')
	for i := range 8 {
		cid[i], token[i] = byte(seq>>(8*i)), byte(seq>>(8*i))
	}
	return cid, token
}

// TestSize has very many names come, each a path's soon, of which each is told once.
func TestSize(t *testing.T) {
	const many = 200000
	p := New(cidOf('a'))
	for seq := uint64(1); seq <= many; seq++ {
		cid, token := numbered(seq)
		if p.Add(seq, cid, token) != api.OK || p.Add(seq, cid, token) != api.OK || p.Token(token) {
			t.Fatalf("P14.1: Add, the %d-th", seq)
		}
		if got, ok := p.For(int(seq)); !ok || !bytes.Equal(got, cid) || !p.Token(token) {
			t.Fatalf("P14.1: For, the %d-th: %q", seq, got)
		}
		if seq > many/2 {
			p.Retired()
		}
	}
	for seq := uint64(1); seq < many; seq++ {
		cid, _ := numbered(seq)
		if got, ok := p.For(int(seq)); !ok || !bytes.Equal(got, cid) {
			t.Fatalf("P14.1: For, the %d-th again: %q", seq, got)
		}
	}
	if got := p.Retired(); !slices.Equal(got, []uint64{many}) {
		t.Errorf("P14.1: Retired: %d", len(got))
	}
}

func TestGoroutines(t *testing.T) {
	var all sync.WaitGroup
	for g := range 8 {
		all.Go(func() {
			draw := rand.New(rand.NewSource(int64(g)))
			p, r := New(cidOf('a')), newRuled(cidOf('a'))
			for range 200 {
				a := drawn(draw, 12)
				if got, want := p.Add(a.seq, a.cid, a.token), r.add(a.seq, a.cid, a.token); got != want {
					t.Errorf("R5: Add: %d, not %d", got, want)
				}
				got, _ := p.For(a.path)
				if want, _ := r.path(a.path); !bytes.Equal(got, want) {
					t.Errorf("R5: For(%d): %q, not %q", a.path, got, want)
				}
				if got, want := p.Retired(), r.retire(); !slices.Equal(got, want) {
					t.Errorf("R5: Retired: %v, not %v", got, want)
				}
			}
		})
	}
	all.Wait()
}
