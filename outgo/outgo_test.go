package outgo

import (
	"bytes"
	"math"
	"math/big"
	"math/rand"
	"slices"
	"sync"
	"testing"
)

// What a byte, or the end, is.
const (
	isNew = iota
	isUnderWay
	isLost
	isThere
)

// ruled keeps what each byte is, and behind them what the end is, as the promises tell it.
type ruled struct {
	data []byte
	is   []int
}

func newRuled(data []byte) *ruled {
	return &ruled{data: slices.Clone(data), is: make([]int, len(data)+1)}
}

func (r *ruled) end() *int { return &r.is[len(r.data)] }

// first answers the first byte that is so, or the data's length.
func (r *ruled) first(kind int) int {
	for at := range r.data {
		if r.is[at] == kind {
			return at
		}
	}
	return len(r.data)
}

// told is what Next answers.
type told struct {
	off  int
	data string
	end  bool
	ok   bool
}

// next follows the sentences of P11.1, one by one.
func (r *ruled) next(room, allow int) told {
	room = max(room, 0)
	from, to, size := 0, 0, len(r.data)
	lost, fresh := r.first(isLost), r.first(isNew)
	switch {
	case lost < size:
		for from, to = lost, lost; to < size && r.is[to] == isLost && to-from < room; to++ {
		}
	case *r.end() == isLost:
		from, to = size, size
	case fresh < size && fresh < allow:
		for from, to = fresh, fresh; to < size && to < allow && to-from < room; to++ {
		}
	case fresh == size && *r.end() == isNew:
		from, to = size, size
	default:
		return told{}
	}
	end := to == size && (*r.end() == isNew || *r.end() == isLost)
	if from == to && !end {
		return told{}
	}
	for at := from; at < to; at++ {
		r.is[at] = isUnderWay
	}
	if end {
		*r.end() = isUnderWay
	}
	return told{from, string(r.data[from:to]), end, true}
}

// within tells by numbers of any size whether at is one of the n places from off on.
func within(at, off, n int) bool {
	ahead := new(big.Int).Sub(big.NewInt(int64(at)), big.NewInt(int64(off)))
	return ahead.Sign() >= 0 && ahead.Cmp(big.NewInt(int64(n))) < 0
}

// turn makes those of the places, and with end the end, that are of one of the kinds into another one.
func (r *ruled) turn(off, n int, end bool, to int, kinds ...int) {
	for at := range r.data {
		if within(at, off, n) && slices.Contains(kinds, r.is[at]) {
			r.is[at] = to
		}
	}
	if end && slices.Contains(kinds, *r.end()) {
		*r.end() = to
	}
}

func (r *ruled) there(off, n int, end bool) { r.turn(off, n, end, isThere, isUnderWay, isLost) }

func (r *ruled) lost(off, n int, end bool) { r.turn(off, n, end, isLost, isUnderWay) }

// count answers how many bytes are not so.
func (r *ruled) count(kind int) int {
	sum := 0
	for at := range r.data {
		if r.is[at] != kind {
			sum++
		}
	}
	return sum
}

func (r *ruled) done() bool { return r.count(isThere) == 0 && *r.end() == isThere }

// ask asks o what is next.
func ask(o *Out, room, allow int) told {
	off, data, end, ok := o.Next(room, allow)
	return told{off, string(data), end, ok}
}

// agree holds what can be asked of o without changing it against what is ruled.
func agree(t *testing.T, o *Out, r *ruled) {
	t.Helper()
	if got, want := o.Sent(), r.count(isNew); got != want {
		t.Fatalf("P11.2: Sent: %d, not %d, of %v", got, want, r.is)
	}
	if got, want := o.Left(), r.count(isThere); got != want {
		t.Fatalf("P11.2: Left: %d, not %d, of %v", got, want, r.is)
	}
	if got, want := o.Done(), r.done(); got != want {
		t.Fatalf("P11.2: Done: %v, not %v, of %v", got, want, r.is)
	}
}

// act is one call of Next, There or Lost.
type act struct {
	kind int
	a, b int
	end  bool
}

// The kinds of acts.
const (
	doNext = iota
	doThere
	doLost
)

// do does the same to o and to what is ruled, and holds them against each other.
func (a act) do(t *testing.T, o *Out, r *ruled) {
	t.Helper()
	before := slices.Clone(r.is)
	switch a.kind {
	case doNext:
		if got, want := ask(o, a.a, a.b), r.next(a.a, a.b); got != want {
			t.Fatalf("P11.1: Next(%d, %d): %v, not %v, of %v", a.a, a.b, got, want, before)
		}
	case doThere:
		o.There(a.a, a.b, a.end)
		r.there(a.a, a.b, a.end)
	case doLost:
		o.Lost(a.a, a.b, a.end)
		r.lost(a.a, a.b, a.end)
	}
	agree(t, o, r)
}

// text is so many bytes, none like its neighbours.
func text(size int) []byte {
	data := make([]byte, size)
	for i := range data {
		data[i] = byte(i*7 + i>>8)
	}
	return data
}

// sent is a text of which so many bytes were sent, all of them with the end.
func sent(size, bytes int) *Out {
	o := New(text(size))
	o.Next(bytes, size)
	return o
}

// acts are all calls that may make a difference to a text of so many bytes.
func acts(size int) []act {
	rooms, allows := []int{math.MinInt, math.MaxInt}, []int{math.MinInt, math.MaxInt}
	var all []act
	for n := -1; n <= size+1; n++ {
		rooms, allows = append(rooms, n), append(allows, n)
	}
	for _, room := range rooms {
		for _, allow := range allows {
			all = append(all, act{kind: doNext, a: room, b: allow})
		}
	}
	offs, counts := []int{math.MinInt, math.MaxInt}, []int{math.MinInt, math.MaxInt, math.MaxInt - 1}
	for n := -2; n <= size+2; n++ {
		offs, counts = append(offs, n), append(counts, n)
	}
	for _, off := range offs {
		for _, n := range counts {
			for _, end := range []bool{false, true} {
				all = append(all, act{doThere, off, n, end}, act{doLost, off, n, end})
			}
		}
	}
	return all
}

// play does the acts to a text of so many bytes.
func play(t *testing.T, size int, path []act) (*Out, *ruled) {
	t.Helper()
	o, r := New(text(size)), newRuled(text(size))
	for _, a := range path {
		a.do(t, o, r)
	}
	return o, r
}

// TestAllStates goes to everything that short texts can be, and does there all that makes a difference.
func TestAllStates(t *testing.T) {
	for size := range 4 {
		seen := map[string]int{}
		queue := [][]act{nil}
		for len(queue) > 0 {
			path := queue[0]
			queue = queue[1:]
			for _, a := range acts(size) {
				longer := append(slices.Clone(path), a)
				_, r := play(t, size, longer)
				var key []byte
				for _, kind := range r.is {
					key = append(key, byte(kind))
				}
				if seen[string(key)]++; seen[string(key)] == 1 {
					queue = append(queue, longer)
				}
			}
		}
		// Of so many sent bytes each one is one of three things; so is the end, once all are sent.
		if want := []int{1 + 3, 1 + 9, 1 + 3 + 27, 1 + 3 + 9 + 81}[size]; len(seen) != want {
			t.Errorf("P11.1: a text of %d bytes can be %d things, not %d", size, len(seen), want)
		}
	}
}

// TestRuled walks long texts and their rule side by side.
func TestRuled(t *testing.T) {
	draw := rand.New(rand.NewSource(11))
	for round := range 300 {
		size := draw.Intn(300)
		if round%10 == 0 {
			size = 64 * draw.Intn(5)
		}
		o, r := New(text(size)), newRuled(text(size))
		for range 150 {
			a := act{draw.Intn(3), draw.Intn(size+20) - 10, draw.Intn(1 + 1<<draw.Intn(9)), draw.Intn(3) == 0}
			if a.kind == doNext {
				a.a, a.b = draw.Intn(1+1<<draw.Intn(9)), draw.Intn(2*size+20)-10
			}
			a.do(t, o, r)
		}
		for range size + 1 {
			act{kind: doNext, a: 1 + draw.Intn(9), b: size}.do(t, o, r)
		}
		act{doThere, 0, size, true}.do(t, o, r)
		if !o.Done() || o.Left() != 0 || o.Sent() != size {
			t.Fatalf("P11.2: all %d bytes were sent, and came: %v", size, r.is)
		}
	}
}

func TestNew(t *testing.T) {
	for _, size := range []int{0, 1, 2, 63, 64, 65, 127, 128, 129, 1000} {
		o := New(text(size))
		if o == nil {
			t.Fatalf("P11.1: New of %d bytes is nil", size)
		}
		if o.Sent() != 0 || o.Left() != size || o.Done() {
			t.Errorf("P11.1: of %d bytes: %d, %d, %v", size, o.Sent(), o.Left(), o.Done())
		}
		if got, want := ask(o, size, size), (told{0, string(text(size)), true, true}); got != want {
			t.Errorf("P11.1: of %d bytes: %v", size, got)
		}
		if o.Sent() != size || o.Left() != size || o.Done() || ask(o, size, size) != (told{}) {
			t.Errorf("P11.1: of %d bytes, sent: %d, %d, %v", size, o.Sent(), o.Left(), o.Done())
		}
	}
	for _, data := range [][]byte{nil, {}} {
		if got := ask(New(data), 0, 0); got != (told{0, "", true, true}) {
			t.Errorf("P11.1: of no bytes: %v", got)
		}
	}
}

func TestNextOfWhatIsNew(t *testing.T) {
	const low, high = math.MinInt, math.MaxInt
	for _, c := range []struct {
		sent, room, allow int
		want              told
	}{
		{0, 2, 9, told{0, "ab", false, true}}, // the chapter's
		{0, low, 9, told{}}, {0, -1, 9, told{}}, {0, 0, 9, told{}},
		{0, 1, 9, told{0, "a", false, true}},
		{0, 4, 9, told{0, "abcd", false, true}},
		{0, 5, 9, told{0, "abcde", true, true}},
		{0, 6, 9, told{0, "abcde", true, true}},
		{0, high, 9, told{0, "abcde", true, true}},
		{0, 9, low, told{}}, {0, 9, -1, told{}}, {0, 9, 0, told{}},
		{0, 9, 1, told{0, "a", false, true}},
		{0, 9, 4, told{0, "abcd", false, true}},
		{0, 9, 5, told{0, "abcde", true, true}},
		{0, 9, 6, told{0, "abcde", true, true}},
		{0, 9, high, told{0, "abcde", true, true}},
		{0, high, high, told{0, "abcde", true, true}},
		{0, low, low, told{}}, {0, high, low, told{}}, {0, low, high, told{}},
		{2, 2, 9, told{2, "cd", false, true}},
		{2, 3, 9, told{2, "cde", true, true}},
		{2, high, 9, told{2, "cde", true, true}},
		{2, 9, 4, told{2, "cd", false, true}},
		{2, 9, 3, told{2, "c", false, true}},
		{2, 9, 2, told{}}, {2, 9, 1, told{}}, {2, 9, 0, told{}}, {2, 9, low, told{}},
		{2, 0, 9, told{}}, {2, -1, 9, told{}},
		{2, high, high, told{2, "cde", true, true}},
		{4, 1, 5, told{4, "e", true, true}},
		{4, 1, 4, told{}},
		{5, 9, 9, told{}}, {5, 0, 0, told{}}, {5, high, high, told{}},
	} {
		o := New([]byte("abcde"))
		if c.sent > 0 {
			o.Next(c.sent, 5)
		}
		if got := ask(o, c.room, c.allow); got != c.want {
			t.Errorf("P11.1: Next(%d, %d) behind %d: %v, not %v", c.room, c.allow, c.sent, got, c.want)
		}
		if got, want := o.Sent(), c.sent+len(c.want.data); got != want {
			t.Errorf("P11.2: Sent behind Next(%d, %d) behind %d: %d, not %d", c.room, c.allow, c.sent, got, want)
		}
	}
}

func TestEndByItself(t *testing.T) {
	const low, high = math.MinInt, math.MaxInt
	for _, c := range [][2]int{{0, 0}, {1, 1}, {low, low}, {high, high}, {low, high}, {high, low}, {-1, -1}} {
		for size := range 3 {
			o, want := sent(size, size), told{size, "", true, true}
			for range 3 {
				if got := ask(o, c[0], c[1]); got != (told{}) {
					t.Errorf("P11.1: the end of %d bytes is under way: %v", size, got)
				}
				o.Lost(0, 0, true)
				if got := ask(o, c[0], c[1]); got != want {
					t.Errorf("P11.1: Next(%d, %d), where the end of %d bytes is lost: %v", c[0], c[1], size, got)
				}
			}
			o.There(0, 0, true)
			if got := ask(o, c[0], c[1]); got != (told{}) {
				t.Errorf("P11.1: the end of %d bytes is there: %v", size, got)
			}
		}
		if got := ask(New(nil), c[0], c[1]); got != (told{0, "", true, true}) {
			t.Errorf("P11.1: Next(%d, %d) of no bytes: %v", c[0], c[1], got)
		}
	}
}

func TestEndWithTheLastByte(t *testing.T) {
	o := sent(5, 5)
	o.Lost(4, 1, false)
	if got := ask(o, 9, 0); got != (told{4, string(text(5)[4:]), false, true}) {
		t.Errorf("P11.1: the end is under way: %v", got)
	}
	o.Lost(4, 1, true)
	if got := ask(o, 9, 0); got != (told{4, string(text(5)[4:]), true, true}) {
		t.Errorf("P11.1: the end is lost: %v", got)
	}
	o.Lost(3, 2, true)
	if got := ask(o, 1, 0); got != (told{3, string(text(5)[3:4]), false, true}) {
		t.Errorf("P11.1: the last byte is not with it: %v", got)
	}
	o.There(4, 1, false)
	if got := ask(o, 0, 0); got != (told{5, "", true, true}) {
		t.Errorf("P11.1: the last byte is there, the end is lost: %v", got)
	}
	o = sent(5, 5)
	o.There(0, 0, true)
	o.Lost(0, 5, true)
	if got := ask(o, 9, 0); got != (told{0, string(text(5)), false, true}) {
		t.Errorf("P11.1: the end is there: %v", got)
	}
}

// TestRoomForALostByte holds that a lost end waits for a lost byte, even if there is no room for one.
func TestRoomForALostByte(t *testing.T) {
	o := sent(5, 5)
	o.Lost(2, 1, true)
	for _, room := range []int{0, -1, math.MinInt} {
		if got := ask(o, room, math.MaxInt); got != (told{}) {
			t.Errorf("P11.1: Next(%d, ..), where a byte and the end are lost: %v", room, got)
		}
	}
	if ask(o, 1, 0).off != 2 || ask(o, 0, 0) != (told{5, "", true, true}) {
		t.Error("P11.1: first the lost byte, then the lost end")
	}
}

func TestLostAheadOfNew(t *testing.T) {
	data := string(text(200))
	o := sent(200, 150)
	for _, span := range [][2]int{{10, 5}, {15, 5}, {21, 1}, {60, 10}, {149, 1}} {
		o.Lost(span[0], span[1], false)
	}
	for _, c := range []struct{ room, allow, from, to int }{
		{3, math.MinInt, 10, 13},
		{math.MaxInt, 0, 13, 20},
		{9, 200, 21, 22},
		{4, 200, 60, 64}, {1, 200, 64, 65}, {9, -1, 65, 70},
		{9, 0, 149, 150}, // what is new is not lost, though it stands beside it
		{9, 155, 150, 155},
	} {
		want := told{c.from, data[c.from:c.to], false, true}
		if got := ask(o, c.room, c.allow); got != want {
			t.Fatalf("P11.1: Next(%d, %d): %v, not %v", c.room, c.allow, got, want)
		}
	}
	o.Lost(3, 1, false)
	if got := ask(o, 9, 200); got.off != 3 || len(got.data) != 1 {
		t.Errorf("P11.1: lost ahead of what was lost already: %v", got)
	}
}

// TestLostSpans holds which bytes Lost makes lost, of 8 that are under way, of 2 more that are new.
func TestLostSpans(t *testing.T) {
	const low, high = math.MinInt, math.MaxInt
	for _, c := range []struct{ off, n, from, to int }{
		{0, 8, 0, 8}, {0, 0, 0, 0}, {0, -1, 0, 0}, {3, low, 0, 0}, {-1, low, 0, 0}, {low, low, 0, 0}, {high, low, 0, 0},
		{2, 3, 2, 5}, {7, 1, 7, 8}, {7, 9, 7, 8}, {8, 1, 0, 0}, {8, 9, 0, 0}, {9, high, 0, 0}, {high, high, 0, 0}, {high, 1, 0, 0},
		{-3, 3, 0, 0}, {-3, 4, 0, 1}, {-3, 99, 0, 8}, {-1, high, 0, 8}, {0, high, 0, 8}, {5, high, 5, 8}, {1, high, 1, 8},
		{low, high, 0, 0}, {low + 1, high, 0, 0}, {low + 2, high, 0, 1}, {low + 5, high, 0, 4}, {low + 20, high, 0, 8},
	} {
		o := sent(10, 8)
		o.Lost(c.off, c.n, false)
		want := told{}
		if c.from < c.to {
			want = told{c.from, string(text(10)[c.from:c.to]), false, true}
		}
		if got := ask(o, 99, 0); got != want || o.Sent() != 8 || o.Left() != 10 {
			t.Errorf("P11.2: Lost(%d, %d): %v, not %v", c.off, c.n, got, want)
		}
		o = sent(10, 8)
		o.There(c.off, c.n, false)
		if o.Left() != 10-(c.to-c.from) || o.Sent() != 8 {
			t.Errorf("P11.2: There(%d, %d): %d are left", c.off, c.n, o.Left())
		}
		o.Lost(0, 10, false)
		for at := range 8 {
			if at < c.from || at >= c.to {
				if got := ask(o, 1, 0); got.off != at || len(got.data) != 1 {
					t.Errorf("P11.2: There(%d, %d), and then %d: %v", c.off, c.n, at, got)
				}
			}
		}
		if got := ask(o, 99, 0); got != (told{}) {
			t.Errorf("P11.2: There(%d, %d), and then: %v", c.off, c.n, got)
		}
	}
}

func TestNewStaysNew(t *testing.T) {
	for size := range 4 {
		o := New(text(size))
		o.There(0, size, true)
		o.Lost(0, size, true)
		o.There(-9, 99, true)
		if o.Sent() != 0 || o.Left() != size || o.Done() {
			t.Errorf("P11.2: %d new bytes: %d, %d, %v", size, o.Sent(), o.Left(), o.Done())
		}
		if got := ask(o, 9, 9); got != (told{0, string(text(size)), true, true}) {
			t.Errorf("P11.2: %d new bytes: %v", size, got)
		}
	}
}

func TestThereStaysThere(t *testing.T) {
	o := sent(5, 5)
	o.There(0, 5, true)
	for range 2 {
		o.Lost(0, 5, true)
		o.There(0, 5, true)
		if !o.Done() || o.Left() != 0 || o.Sent() != 5 || ask(o, 9, 9) != (told{}) {
			t.Error("P11.2: what is there stays so")
		}
	}
}

func TestLostThatCame(t *testing.T) {
	o := sent(5, 5)
	o.Lost(0, 5, true)
	o.There(1, 3, true)
	if got := ask(o, 9, 0); got != (told{0, string(text(5)[:1]), false, true}) || o.Left() != 2 {
		t.Errorf("P11.2: lost, and came: %v, %d are left", got, o.Left())
	}
	if got := ask(o, 9, 0); got != (told{4, string(text(5)[4:]), false, true}) {
		t.Errorf("P11.2: lost, and came: %v", got)
	}
	o.There(0, 1, false)
	o.There(4, 1, false)
	if !o.Done() || o.Left() != 0 {
		t.Error("P11.2: all came")
	}
}

// TestDoneNeedsAll holds that each byte counts, and the end.
func TestDoneNeedsAll(t *testing.T) {
	const size = 130
	for missing := range size + 1 {
		o := sent(size, size)
		o.There(0, missing, missing < size)
		o.There(missing+1, size, false)
		left := 1
		if missing == size {
			left = 0
		}
		if o.Done() || o.Left() != left || o.Sent() != size {
			t.Errorf("P11.2: %d is missing: %v, %d", missing, o.Done(), o.Left())
		}
		o.There(missing, 1, missing == size)
		if !o.Done() || o.Left() != 0 {
			t.Errorf("P11.2: %d came last: %v, %d", missing, o.Done(), o.Left())
		}
	}
}

func TestArgumentIsNotKept(t *testing.T) {
	room := []byte("abcdefgh")
	data := room[:5]
	o := New(data)
	for i := range room {
		room[i] = 'z'
	}
	if got := ask(o, 9, 9); got != (told{0, "abcde", true, true}) {
		t.Errorf("R4: the bytes are kept: %v", got)
	}
	o.Lost(0, 5, true)
	o.There(1, 1, false)
	o.Next(9, 9)
	if string(room) != "zzzzzzzz" {
		t.Errorf("R4: the bytes are changed: %q", room)
	}
}

func TestAnswersAreTheCallersOwn(t *testing.T) {
	o := New([]byte("abcdefgh"))
	_, first, _, _ := o.Next(4, 9)
	o.Lost(0, 4, false)
	_, second, _, _ := o.Next(4, 9)
	_, third, _, _ := o.Next(4, 9)
	for _, data := range [][]byte{first, third} {
		for i := range data {
			data[i] = 'z'
		}
		spare := data[:cap(data)]
		for i := range spare {
			spare[i] = 'y'
		}
	}
	if string(second) != "abcd" {
		t.Errorf("R4: two answers share bytes: %q", second)
	}
	o.Lost(0, 8, true)
	if got := ask(o, 9, 9); got != (told{0, "abcdefgh", true, true}) || string(second) != "abcd" {
		t.Errorf("R4: an answer is kept: %v, %q", got, second)
	}
}

func TestAskingChangesNothing(t *testing.T) {
	o, r := New(text(9)), newRuled(text(9))
	for _, a := range []act{{doNext, 5, 9, false}, {doLost, 1, 2, false}, {doThere, 0, 2, false}} {
		a.do(t, o, r)
	}
	for range 3 {
		agree(t, o, r)
		if ask(o, 0, 9) != (told{}) {
			t.Error("P11.1: no room, and something")
		}
	}
	if got := ask(o, 9, 9); got != (told{2, string(text(9)[2:3]), false, true}) {
		t.Errorf("P11.1: behind what only asks: %v", got)
	}
}

func TestOutsAreApart(t *testing.T) {
	data := []byte("abc")
	a, b := New(data), New(data)
	a.Next(3, 3)
	a.There(0, 3, true)
	if b.Sent() != 0 || b.Left() != 3 || b.Done() || ask(b, 9, 9) != (told{0, "abc", true, true}) {
		t.Error("R5: one hangs on another")
	}
}

func TestNil(t *testing.T) {
	var o *Out
	for _, n := range []int{math.MinInt, -1, 0, 1, math.MaxInt} {
		o.There(n, n, true)
		o.Lost(n, n, true)
		if off, data, end, ok := o.Next(n, n); off != 0 || data != nil || end || ok {
			t.Errorf("R3: Next(%d, %d)", n, n)
		}
	}
	if o.Done() || o.Sent() != 0 || o.Left() != 0 {
		t.Error("R3: of none")
	}
}

// TestSize sends a million bytes one by one, and then each second one again, while all is told of over and over.
func TestSize(t *testing.T) {
	data := text(1 << 20)
	o := New(data)
	for at := range data {
		if off, got, end, ok := o.Next(1, len(data)); off != at || len(got) != 1 || got[0] != data[at] || end != (at == len(data)-1) || !ok {
			t.Fatalf("P11.1: %d of many: %d %v %v %v", at, off, got, end, ok)
		}
	}
	for at := len(data) - 2; at >= 0; at -= 2 {
		o.Lost(at, 1, false)
	}
	for at := 0; at < len(data); at += 2 {
		if off, got, _, _ := o.Next(9, 0); off != at || !bytes.Equal(got, data[at:at+1]) {
			t.Fatalf("P11.1: %d of many, again: %d %v", at, off, got)
		}
		o.There(at+1, 1, false)
	}
	if o.Left() != len(data)/2 {
		t.Errorf("P11.2: half of many are left: %d", o.Left())
	}
	for range 2000 {
		o.Lost(0, len(data), true)
		o.Lost(len(data)-2, 1, false)
		o.Next(1, 0)
	}
	o.There(0, math.MaxInt, true)
	if !o.Done() || o.Left() != 0 {
		t.Errorf("P11.2: many: %d are left", o.Left())
	}
}

func TestGoroutines(t *testing.T) {
	data := text(200)
	var all sync.WaitGroup
	for g := range 8 {
		all.Go(func() {
			draw := rand.New(rand.NewSource(int64(g)))
			o, r := New(data), newRuled(data)
			for range 500 {
				room, off, n := draw.Intn(20), draw.Intn(200), draw.Intn(20)
				if got, want := ask(o, room, 200), r.next(room, 200); got != want {
					t.Errorf("R5: Next(%d, 200): %v, not %v", room, got, want)
				}
				o.Lost(off, n, g%2 == 0)
				r.lost(off, n, g%2 == 0)
			}
			if o.Sent() != r.count(isNew) || o.Left() != 200 {
				t.Errorf("R5: %d, %d", o.Sent(), o.Left())
			}
		})
	}
	all.Wait()
}
