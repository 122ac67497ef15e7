package income

import (
	"bytes"
	"math"
	"math/big"
	"math/rand"
	"slices"
	"strconv"
	"strings"
	"sync"
	"testing"

	"mantilla/api"
)

const low, high = math.MinInt, math.MaxInt

// ruled keeps what came, and what is read of it, as the promise tells it.
type ruled struct {
	most int
	came map[int]byte
	end  int // -1, as long as it did not come
	read int
}

func newRuled(most int) *ruled {
	return &ruled{most: most, came: map[int]byte{}, end: -1}
}

// put follows the sentences of P12.1, one by one; how far it goes is told by numbers of any size.
func (r *ruled) put(off int, data []byte, end bool) api.Errno {
	if off < 0 {
		return api.ErrArg
	}
	if far := new(big.Int).Add(big.NewInt(int64(off)), big.NewInt(int64(len(data)))); far.Cmp(big.NewInt(int64(r.most))) > 0 {
		return api.ErrBound
	}
	to := off + len(data)
	for k, b := range data {
		if old, ok := r.came[off+k]; ok && old != b {
			return api.ErrClash
		}
	}
	if r.end >= 0 && to > r.end || end && r.end >= 0 && to != r.end {
		return api.ErrClash
	}
	for at := range r.came {
		if end && to <= at {
			return api.ErrClash
		}
	}
	for k, b := range data {
		r.came[off+k] = b
	}
	if end {
		r.end = to
	}
	return api.OK
}

func (r *ruled) readable() int {
	n := 0
	for _, ok := r.came[r.read]; ok; _, ok = r.came[r.read+n] {
		n++
	}
	return n
}

func (r *ruled) take(n int) string {
	var out []byte
	for range min(max(n, 0), r.readable()) {
		out = append(out, r.came[r.read])
		r.read++
	}
	return string(out)
}

func (r *ruled) highest() int {
	far := max(r.end, 0)
	for at := range r.came {
		far = max(far, at+1)
	}
	return far
}

// whole holds that the end came, and as many bytes, as none comes behind it.
func (r *ruled) whole() bool { return r.end >= 0 && len(r.came) == r.end }

func (r *ruled) ended() bool { return r.whole() && r.read == r.end }

// String tells all that it is.
func (r *ruled) String() string {
	var told strings.Builder
	for at := range r.most {
		b, ok := r.came[at]
		if !ok {
			b = '-'
		}
		told.WriteByte(b)
	}
	return told.String() + " of " + strconv.Itoa(r.most) + ", the end " + strconv.Itoa(r.end) + ", read " + strconv.Itoa(r.read)
}

// agree holds what can be asked of i without changing it against what is ruled.
func agree(t *testing.T, i *In, r *ruled) {
	t.Helper()
	if got, want := i.Readable(), r.readable(); got != want {
		t.Fatalf("P12.1: Readable: %d, not %d, of %v", got, want, r)
	}
	if got, want := i.Highest(), r.highest(); got != want {
		t.Fatalf("P12.1: Highest: %d, not %d, of %v", got, want, r)
	}
	if got, want := i.Whole(), r.whole(); got != want {
		t.Fatalf("P12.1: Whole: %v, not %v, of %v", got, want, r)
	}
	if got, want := i.Ended(), r.ended(); got != want {
		t.Fatalf("P12.1: Ended: %v, not %v, of %v", got, want, r)
	}
}

// act is one call of Put, or of Read with n.
type act struct {
	read bool
	n    int
	off  int
	data string
	end  bool
}

// do does the same to i and to what is ruled, and holds them against each other.
func (a act) do(t *testing.T, i *In, r *ruled) {
	t.Helper()
	before := r.String()
	if a.read {
		if got, want := string(i.Read(a.n)), r.take(a.n); got != want {
			t.Fatalf("P12.1: Read(%d): %q, not %q, of %s", a.n, got, want, before)
		}
	} else if got, want := i.Put(a.off, []byte(a.data), a.end), r.put(a.off, []byte(a.data), a.end); got != want {
		t.Fatalf("P12.1: Put(%d, %q, %v): %d, not %d, of %s", a.off, a.data, a.end, got, want, before)
	}
	agree(t, i, r)
}

// drain fills all gaps with what came nowhere, ends, and reads all: whatever i keeps is seen there.
func drain(t *testing.T, i *In, r *ruled) {
	t.Helper()
	for at := range r.most {
		act{off: at, data: "z"}.do(t, i, r)
	}
	for to := range r.most + 1 {
		act{off: to, end: true}.do(t, i, r)
	}
	act{read: true, n: r.most}.do(t, i, r)
}

// words are all texts of up to so many bytes, of two letters.
func words(size int) []string {
	all := []string{""}
	for from := 0; size > 0; size-- {
		for last := len(all); from < last; from++ {
			all = append(all, all[from]+"a", all[from]+"b")
		}
	}
	return all
}

// acts are all calls that may make a difference where so many bytes may come.
func acts(most int) []act {
	numbers := []int{low, low + 1, high - 1, high}
	for n := -2; n <= most+2; n++ {
		numbers = append(numbers, n)
	}
	var all []act
	for _, n := range numbers {
		all = append(all, act{read: true, n: n})
		for _, data := range words(most + 1) {
			all = append(all, act{off: n, data: data}, act{off: n, data: data, end: true})
		}
	}
	return all
}

// play does the acts where so many bytes may come.
func play(t *testing.T, most int, path []act) (*In, *ruled) {
	t.Helper()
	i, r := New(most), newRuled(most)
	for _, a := range path {
		a.do(t, i, r)
	}
	return i, r
}

// TestAllStates goes to everything that short streams of two letters can be, does there all that makes a difference, and
// looks at all that is there then.
func TestAllStates(t *testing.T) {
	for most := range 4 {
		seen := map[string]int{}
		queue := [][]act{nil}
		for len(queue) > 0 {
			path := queue[0]
			queue = queue[1:]
			for _, a := range acts(most) {
				longer := append(slices.Clone(path), a)
				i, r := play(t, most, longer)
				if seen[r.String()]++; seen[r.String()] == 1 {
					queue = append(queue, longer)
				}
				drain(t, i, r)
			}
		}
		if want := states(most); len(seen) != want {
			t.Errorf("P12.1: %d bytes can be %d things, not %d", most, len(seen), want)
		}
	}
}

// states answers how many things so many bytes can be: each came as one letter or the other, or did not; the end came
// nowhere, or behind all that came; what is read goes up to a place that no gap is ahead of.
func states(most int) int {
	sum := 0
	for n := range int(math.Pow(3, float64(most))) {
		highest, whole := 0, 0
		for at := range most {
			if n%3 > 0 {
				highest = at + 1
				if whole == at {
					whole++
				}
			}
			n /= 3
		}
		sum += (1 + most - highest + 1) * (whole + 1)
	}
	return sum
}

// text is so many bytes, none like its neighbours.
func text(size int) []byte {
	data := make([]byte, size)
	for i := range data {
		data[i] = byte(i*7 + i>>8)
	}
	return data
}

// TestRuled walks long streams and their rule side by side.
func TestRuled(t *testing.T) {
	draw := rand.New(rand.NewSource(12))
	for round := range 300 {
		most := draw.Intn(300)
		if round%10 == 0 {
			most = 64 * draw.Intn(5)
		}
		size := most - min(most, draw.Intn(1+1<<draw.Intn(8)))
		sent := text(size)
		i, r := New(most), newRuled(most)
		for range 100 {
			a := act{read: draw.Intn(4) == 0, n: draw.Intn(1+1<<draw.Intn(9)) - 1}
			lo := draw.Intn(size + 1)
			hi := min(size, lo+draw.Intn(1+1<<draw.Intn(8)))
			data := slices.Clone(sent[lo:hi])
			if len(data) > 0 && draw.Intn(8) == 0 {
				data[draw.Intn(len(data))]++
			}
			a.off, a.data, a.end = lo, string(data), hi == size
			if draw.Intn(8) == 0 {
				a.off, a.end = lo+draw.Intn(5)-2, draw.Intn(2) == 0
			}
			a.do(t, i, r)
		}
		drain(t, i, r)
	}
}

func TestNew(t *testing.T) {
	for _, most := range []int{low, low + 1, -1 << 20, -2, -1, 1<<20 + 1, 1 << 21, 1 << 32, 1<<32 + 1, high - 1, high} {
		if New(most) != nil {
			t.Errorf("P12.1: New(%d)", most)
		}
	}
	for _, most := range []int{0, 1, 2, 63, 64, 65, 4096, 1<<20 - 1, 1 << 20} {
		i := New(most)
		if i == nil {
			t.Fatalf("P12.1: New(%d) is nil", most)
		}
		if i.Readable() != 0 || i.Highest() != 0 || i.Whole() || i.Ended() || len(i.Read(high)) != 0 {
			t.Errorf("P12.1: New(%d) holds something", most)
		}
		if most > 0 && (i.Put(most-1, []byte("a"), false) != api.OK || i.Highest() != most) {
			t.Errorf("P12.1: New(%d), the last byte", most)
		}
		if i.Put(most, []byte("a"), false) != api.ErrBound || i.Put(most+1, nil, true) != api.ErrBound {
			t.Errorf("P12.1: New(%d), beyond", most)
		}
		if i.Put(most, nil, true) != api.OK || i.Whole() != (most < 2) {
			t.Errorf("P12.1: New(%d), the end", most)
		}
	}
}

// came is a stream of 10 bytes at most, of which "cd" came at 2, and "g" at 6, and the end at 8 if end says so.
func came(t *testing.T, end bool) (*In, *ruled) {
	t.Helper()
	path := []act{{off: 2, data: "cd"}, {off: 6, data: "g"}}
	if end {
		path = append(path, act{off: 8, end: true})
	}
	return play(t, 10, path)
}

// refused is a Put, and what is answered to it.
type refused struct {
	off  int
	data string
	end  bool
	code api.Errno
}

// holds does each Put to a stream like the one that fresh answers, and drains it.
func holds(t *testing.T, fresh func() (*In, *ruled), cases []refused) {
	t.Helper()
	for _, c := range cases {
		i, r := fresh()
		if got := i.Put(c.off, []byte(c.data), c.end); got != c.code {
			t.Errorf("P12.1: Put(%d, %q, %v): %d, not %d, of %v", c.off, c.data, c.end, got, c.code, r)
		}
		if c.code == api.OK {
			r.put(c.off, []byte(c.data), c.end)
		}
		agree(t, i, r)
		drain(t, i, r)
	}
}

func TestBelowZero(t *testing.T) {
	for _, end := range []bool{false, true} {
		holds(t, func() (*In, *ruled) { return came(t, end) }, []refused{
			{-1, "", false, api.ErrArg}, {-1, "", true, api.ErrArg}, {-1, "ab", false, api.ErrArg},
			{low, "", false, api.ErrArg}, {low, "abc", true, api.ErrArg}, {low + 1, "abc", true, api.ErrArg},
			{-1, "abcdefghijklmnop", false, api.ErrArg}, // it goes beyond most, too
			{-1, "abX", true, api.ErrArg},               // and it clashes
			{-10, "", true, api.ErrArg}, {0, "", false, api.OK}, {0, "ab", false, api.OK},
		})
	}
}

func TestBeyondMost(t *testing.T) {
	holds(t, func() (*In, *ruled) { return came(t, false) }, []refused{
		{10, "", false, api.OK}, {10, "", true, api.OK}, {9, "j", false, api.OK}, {9, "j", true, api.OK},
		{0, "abcdefghij", true, api.OK}, {0, "abcdefghijk", false, api.ErrBound}, {1, "bcdefghijk", true, api.ErrBound},
		{10, "k", false, api.ErrBound}, {10, "k", true, api.ErrBound}, {9, "jk", false, api.ErrBound},
		{11, "", false, api.ErrBound}, {11, "", true, api.ErrBound}, {11, "l", false, api.ErrBound},
		{high, "", false, api.ErrBound}, {high, "", true, api.ErrBound}, {high, "a", false, api.ErrBound},
		{high - 1, "ab", true, api.ErrBound}, {high - 2, "abc", false, api.ErrBound}, {1 << 62, "x", true, api.ErrBound},
		{1 << 32, "", true, api.ErrBound}, {1<<32 + 2, "cd", false, api.ErrBound},
		{2, "XXXXXXXXX", false, api.ErrBound}, // it clashes, too
	})
	holds(t, func() (*In, *ruled) { return came(t, true) }, []refused{
		{10, "k", true, api.ErrBound}, {11, "", true, api.ErrBound}, {11, "", false, api.ErrBound}, // beyond the end, too
	})
	holds(t, func() (*In, *ruled) { return New(0), newRuled(0) }, []refused{
		{0, "", false, api.OK}, {0, "", true, api.OK}, {0, "a", false, api.ErrBound}, {0, "a", true, api.ErrBound},
		{1, "", false, api.ErrBound}, {1, "", true, api.ErrBound}, {high, "a", true, api.ErrBound}, {-1, "", false, api.ErrArg},
	})
}

func TestBytesThatCameAlready(t *testing.T) {
	for _, end := range []bool{false, true} {
		holds(t, func() (*In, *ruled) { return came(t, end) }, []refused{
			{2, "cd", false, api.OK}, {2, "c", false, api.OK}, {3, "d", false, api.OK}, {6, "g", false, api.OK},
			{1, "bc", false, api.OK}, {3, "de", false, api.OK}, {0, "abcdefgh", false, api.OK}, {0, "abcdefgh", true, api.OK},
			{2, "XX", false, api.ErrClash}, {2, "Xd", false, api.ErrClash}, {2, "cX", false, api.ErrClash}, {2, "dc", false, api.ErrClash},
			{2, "X", false, api.ErrClash}, {3, "X", false, api.ErrClash}, {6, "X", false, api.ErrClash},
			{1, "bX", false, api.ErrClash}, {3, "Xe", false, api.ErrClash}, {0, "abcdefX", false, api.ErrClash},
			{0, "abcdefX", true, api.ErrClash}, {0, "abcXefgh", true, api.ErrClash}, {2, "\x00d", false, api.ErrClash},
			{0, "XX", false, api.OK}, {4, "XX", false, api.OK}, {7, "X", false, api.OK},
		})
	}
}

func TestEnd(t *testing.T) {
	holds(t, func() (*In, *ruled) { return came(t, false) }, []refused{
		{0, "", true, api.ErrClash}, {2, "cd", true, api.ErrClash}, {4, "ef", true, api.ErrClash}, {6, "", true, api.ErrClash},
		{7, "", true, api.OK}, {6, "g", true, api.OK}, {8, "", true, api.OK}, {7, "h", true, api.OK}, {10, "", true, api.OK},
	})
	holds(t, func() (*In, *ruled) { return came(t, true) }, []refused{
		{8, "", true, api.OK}, {7, "h", true, api.OK}, {6, "gh", true, api.OK}, {0, "abcdefgh", true, api.OK}, // again
		{8, "", false, api.OK}, {7, "h", false, api.OK}, {7, "", false, api.OK},
		{7, "", true, api.ErrClash}, {6, "g", true, api.ErrClash}, {0, "", true, api.ErrClash}, {3, "", true, api.ErrClash},
		{9, "", true, api.ErrClash}, {8, "i", true, api.ErrClash}, {10, "", true, api.ErrClash}, // elsewhere
		{8, "i", false, api.ErrClash}, {7, "hi", false, api.ErrClash}, {9, "j", false, api.ErrClash}, // beyond
		{9, "", false, api.ErrClash}, {10, "", false, api.ErrClash},
	})
	holds(t, func() (*In, *ruled) { return play(t, 3, []act{{end: true}}) }, []refused{
		{0, "", true, api.OK}, {0, "", false, api.OK}, {0, "a", false, api.ErrClash}, {0, "a", true, api.ErrClash},
		{1, "", true, api.ErrClash}, {1, "", false, api.ErrClash}, {3, "", true, api.ErrClash},
	})
}

// TestNoBytesAreNone holds that what has no bytes, and no end, leaves nothing behind, wherever it is.
func TestNoBytesAreNone(t *testing.T) {
	for off := range 11 {
		i, r := came(t, false)
		act{off: off}.do(t, i, r)
		act{off: 7, end: true}.do(t, i, r)
		if i.Highest() != 7 {
			t.Errorf("P12.1: no bytes at %d, and the end at 7: %d", off, i.Highest())
		}
	}
}

func TestRead(t *testing.T) {
	const size = 5
	for _, n := range []int{low, low + 1, -1, 0, 1, 2, 4, 5, 6, 9, high - 1, high} {
		i := New(20)
		i.Put(3, []byte("de"), false)
		i.Put(8, []byte("i"), true)
		i.Put(0, []byte("ab"), false)
		i.Put(2, []byte("c"), false)
		want := "abcde"[:min(max(n, 0), size)]
		if got := i.Read(n); string(got) != want || i.Readable() != size-len(want) || i.Highest() != 9 || i.Whole() || i.Ended() {
			t.Errorf("P12.1: Read(%d): %q, and then %d are readable", n, got, i.Readable())
		}
		if got := i.Read(high); string(got) != "abcde"[len(want):] || i.Readable() != 0 {
			t.Errorf("P12.1: Read(%d), and the others: %q", n, got)
		}
		if got := i.Read(high); len(got) != 0 {
			t.Errorf("P12.1: beyond a gap: %q", got)
		}
		i.Put(5, []byte("fgh"), false)
		if i.Readable() != 4 || !i.Whole() || i.Ended() {
			t.Errorf("P12.1: the gap is filled: %d, %v, %v", i.Readable(), i.Whole(), i.Ended())
		}
		if got := i.Read(4); string(got) != "fghi" || !i.Whole() || !i.Ended() || i.Readable() != 0 || i.Highest() != 9 {
			t.Errorf("P12.1: Read behind the gap: %q", got)
		}
	}
}

// TestReadAcross reads what came in many parts, of any size, in parts of another one.
func TestReadAcross(t *testing.T) {
	sent := text(1000)
	for _, in := range []int{1, 2, 63, 64, 65, 100, 1000} {
		for _, out := range []int{1, 3, 63, 64, 65, 127, 128, 129, 1000} {
			i := New(1000)
			for lo := (1000 - 1) / in * in; lo >= 0; lo -= in {
				i.Put(lo, sent[lo:min(lo+in, 1000)], lo+in >= 1000)
			}
			var all []byte
			for !i.Ended() {
				part := i.Read(out)
				if len(part) == 0 || len(part) > out {
					t.Fatalf("P12.1: %d of %d at once", len(part), out)
				}
				all = append(all, part...)
			}
			if !bytes.Equal(all, sent) {
				t.Errorf("P12.1: in by %d, out by %d: another one", in, out)
			}
		}
	}
}

// TestCameAgain holds that what is read can come again, but not be read again, and not be another one.
func TestCameAgain(t *testing.T) {
	fresh := func() (*In, *ruled) {
		return play(t, 10, []act{{off: 0, data: "abcdef"}, {read: true, n: 4}})
	}
	holds(t, fresh, []refused{
		{0, "abcd", false, api.OK}, {0, "a", false, api.OK}, {3, "defg", true, api.OK}, {0, "abcdef", true, api.OK},
		{0, "X", false, api.ErrClash}, {3, "X", false, api.ErrClash}, {0, "abcX", false, api.ErrClash}, {3, "Xef", true, api.ErrClash},
		{4, "", true, api.ErrClash}, {0, "abcd", true, api.ErrClash}, {0, "", true, api.ErrClash},
	})
	i, _ := fresh()
	i.Put(0, []byte("abcdef"), true)
	if got := i.Read(9); string(got) != "ef" || !i.Ended() {
		t.Errorf("P12.1: came again: %q", got)
	}
	if i.Put(0, []byte("abcdef"), true) != api.OK || i.Readable() != 0 || len(i.Read(9)) != 0 || !i.Ended() || !i.Whole() || i.Highest() != 6 {
		t.Error("P12.1: all came again behind it was read")
	}
}

// TestEndBehindAllIsRead holds that what is read as far as it came is not ended before the end came.
func TestEndBehindAllIsRead(t *testing.T) {
	i := New(5)
	i.Put(0, []byte("abcde"), false)
	if i.Whole() || string(i.Read(9)) != "abcde" || i.Whole() || i.Ended() {
		t.Error("P12.1: without the end")
	}
	if i.Put(5, nil, true) != api.OK || !i.Whole() || !i.Ended() {
		t.Error("P12.1: the end by itself")
	}
	i = New(0)
	if i.Whole() || i.Ended() || i.Put(0, nil, true) != api.OK || !i.Whole() || !i.Ended() || i.Highest() != 0 {
		t.Error("P12.1: of no bytes")
	}
	i = New(5) // the chapter's
	if i.Put(2, []byte("c"), true) != api.OK || i.Readable() != 0 || i.Highest() != 3 || i.Whole() {
		t.Error("P12.1: the end ahead of others")
	}
}

func TestArgumentIsNotKept(t *testing.T) {
	room := []byte("abcdefgh")
	data := room[:5]
	i := New(9)
	i.Put(0, data, false)
	if string(room) != "abcdefgh" {
		t.Errorf("R4: the bytes are changed: %q", room)
	}
	for k := range room {
		room[k] = 'z'
	}
	if i.Put(0, []byte("abcde"), false) != api.OK || i.Put(4, []byte("z"), false) != api.ErrClash {
		t.Error("R4: the bytes are kept")
	}
	if got := i.Read(9); string(got) != "abcde" {
		t.Errorf("R4: the bytes are kept: %q", got)
	}
	i.Put(0, data, true)
	if string(room) != "zzzzzzzz" {
		t.Errorf("R4: the bytes are changed: %q", room)
	}
}

func TestAnswersAreTheCallersOwn(t *testing.T) {
	i := New(9)
	i.Put(0, []byte("abcdefgh"), true)
	first, second := i.Read(4), i.Read(2)
	for _, data := range [][]byte{first, i.Read(0)} {
		spare := data[:cap(data)]
		for k := range spare {
			spare[k] = 'z'
		}
		_ = append(data, "yyyyyyyy"...)
	}
	if string(second) != "ef" {
		t.Errorf("R4: two answers share bytes: %q", second)
	}
	if i.Put(0, []byte("abcdefgh"), true) != api.OK || i.Put(0, []byte("z"), false) != api.ErrClash {
		t.Error("R4: an answer is kept")
	}
	if got := i.Read(9); string(got) != "gh" {
		t.Errorf("R4: an answer is kept: %q", got)
	}
}

func TestInsAreApart(t *testing.T) {
	a, b := New(9), New(9)
	a.Put(0, []byte("abc"), true)
	a.Read(2)
	if b.Readable() != 0 || b.Highest() != 0 || b.Whole() || b.Put(0, []byte("xyz12"), true) != api.OK || string(b.Read(9)) != "xyz12" {
		t.Error("R5: one hangs on another")
	}
	if string(a.Read(9)) != "c" || !a.Ended() || a.Highest() != 3 {
		t.Error("R5: another hangs on one")
	}
}

func TestNil(t *testing.T) {
	var i *In
	for _, n := range []int{low, -1, 0, 1, high} {
		for _, data := range [][]byte{nil, {}, []byte("abc")} {
			if i.Put(n, data, false) != api.ErrNil || i.Put(n, data, true) != api.ErrNil {
				t.Errorf("R3: Put(%d, %q)", n, data)
			}
		}
		if i.Read(n) != nil {
			t.Errorf("R3: Read(%d)", n)
		}
	}
	if i.Readable() != 0 || i.Highest() != 0 || i.Ended() || i.Whole() {
		t.Error("R3: of none")
	}
}

// TestSize takes a million bytes in one by one, from behind, while all is told of over and over, and reads them one by one.
func TestSize(t *testing.T) {
	sent := text(1 << 20)
	i := New(1 << 20)
	for at := len(sent) - 1; at >= 0; at-- {
		if i.Whole() || i.Readable() != 0 || i.Put(at, sent[at:at+1], at == len(sent)-1) != api.OK || i.Highest() != len(sent) {
			t.Fatalf("P12.1: %d of many", at)
		}
	}
	for at := range sent {
		if i.Ended() || !i.Whole() || i.Readable() != len(sent)-at {
			t.Fatalf("P12.1: %d of many: %d are readable", at, i.Readable())
		}
		if got := i.Read(1); len(got) != 1 || got[0] != sent[at] {
			t.Fatalf("P12.1: %d of many: %v", at, got)
		}
	}
	if !i.Ended() {
		t.Error("P12.1: many, all read")
	}
	wrong := slices.Clone(sent)
	wrong[len(wrong)-1]++
	for range 100 {
		if i.Put(0, sent, true) != api.OK || i.Put(0, wrong, false) != api.ErrClash {
			t.Fatal("P12.1: many again")
		}
	}
}

func TestGoroutines(t *testing.T) {
	sent := text(200)
	var all sync.WaitGroup
	for g := range 8 {
		all.Go(func() {
			draw := rand.New(rand.NewSource(int64(g)))
			i, r := New(200+g), newRuled(200+g)
			for range 500 {
				lo := draw.Intn(200)
				hi := min(200, lo+draw.Intn(20))
				if got, want := i.Put(lo, sent[lo:hi], hi == 200), r.put(lo, sent[lo:hi], hi == 200); got != want {
					t.Errorf("R5: Put(%d, ..): %d, not %d", lo, got, want)
				}
				if got, want := string(i.Read(g)), r.take(g); got != want {
					t.Errorf("R5: Read(%d): %q, not %q", g, got, want)
				}
			}
		})
	}
	all.Wait()
}
