package credit

import (
	"fmt"
	"math"
	"math/big"
	"math/rand"
	"sync"
	"testing"
)

const low, high = math.MinInt, math.MaxInt

// ruled keeps all that was told, and tells of it by numbers of any size, as the promise does.
type ruled struct {
	window *big.Int
	taken  []int
	told   []int
	limit  *big.Int
}

func newRuled(window int) *ruled {
	return &ruled{window: big.NewInt(int64(window)), limit: big.NewInt(int64(window))}
}

// power is 2 to the n-th.
func power(n uint) *big.Int { return new(big.Int).Lsh(big.NewInt(1), n) }

func (r *ruled) room() *big.Int {
	left := new(big.Int).Set(r.limit)
	for _, n := range r.taken {
		left.Sub(left, big.NewInt(int64(n)))
	}
	return left
}

func (r *ruled) take(n int) bool {
	if n < 0 || big.NewInt(int64(n)).Cmp(r.room()) > 0 {
		return false
	}
	r.taken = append(r.taken, n)
	return true
}

func (r *ruled) raise(limit int) bool {
	to := big.NewInt(int64(limit))
	if to.Cmp(r.limit) <= 0 || to.Cmp(power(40)) > 0 {
		return false
	}
	r.limit = to
	return true
}

// greatest is the greatest total that was told, none below 0, and none above 2 to the 39th.
func (r *ruled) greatest() *big.Int {
	greatest := new(big.Int)
	for _, n := range r.told {
		if told := big.NewInt(int64(n)); told.Cmp(greatest) > 0 {
			greatest = told
		}
	}
	if greatest.Cmp(power(39)) > 0 {
		greatest = power(39)
	}
	return greatest
}

func (r *ruled) read(total int) bool {
	r.told = append(r.told, total)
	to := r.greatest()
	to.Add(to, r.window)
	more := new(big.Int).Sub(to, r.limit)
	half := new(big.Int).Rsh(r.window, 1)
	if more.Sign() <= 0 || more.Cmp(half) < 0 {
		return false
	}
	r.limit = to
	return true
}

// String tells all that it is.
func (r *ruled) String() string {
	return fmt.Sprintf("window %v, Limit %v, taken %v, read %v", r.window, r.limit, r.taken, r.told)
}

// agree holds what can be asked of c without changing it against what is ruled.
func agree(t *testing.T, c *Credit, r *ruled) {
	t.Helper()
	if got := c.Limit(); big.NewInt(int64(got)).Cmp(r.limit) != 0 {
		t.Fatalf("P13.1: Limit: %d, of %v", got, r)
	}
	if got := c.Room(); big.NewInt(int64(got)).Cmp(r.room()) != 0 {
		t.Fatalf("P13.1: Room: %d, not %v, of %v", got, r.room(), r)
	}
}

// act is one call of Take, Raise or Read with n.
type act struct {
	kind int
	n    int
}

const (
	take = iota
	raise
	read
)

// do does the same to c and to what is ruled, and holds them against each other.
func (a act) do(t *testing.T, c *Credit, r *ruled) {
	t.Helper()
	before := r.String()
	switch a.kind {
	case take:
		if got, want := c.Take(a.n), r.take(a.n); got != want {
			t.Fatalf("P13.1: Take(%d): %v, of %s", a.n, got, before)
		}
	case raise:
		if got, want := c.Raise(a.n), r.raise(a.n); got != want {
			t.Fatalf("P13.1: Raise(%d): %v, of %s", a.n, got, before)
		}
	case read:
		got, more := c.Read(a.n)
		if want := r.read(a.n); more != want || big.NewInt(int64(got)).Cmp(r.limit) != 0 {
			t.Fatalf("P13.1: Read(%d): %d, %v, not %v, %v, of %s", a.n, got, more, r.limit, want, before)
		}
	}
	agree(t, c, r)
}

// made is a credit of that window, and what is ruled of it.
func made(t *testing.T, window int) (*Credit, *ruled) {
	t.Helper()
	c := New(window)
	if c == nil {
		t.Fatalf("P13.1: New(%d) is nil", window)
	}
	r := newRuled(window)
	agree(t, c, r)
	return c, r
}

// play does all of path to a fresh credit.
func play(t *testing.T, window int, path []act) (*Credit, *ruled) {
	t.Helper()
	c, r := made(t, window)
	for _, a := range path {
		a.do(t, c, r)
	}
	return c, r
}

// state is what may be told apart of what is ruled.
type state struct {
	limit, room, greatest int64
}

func (r *ruled) state() state {
	return state{r.limit.Int64(), r.room().Int64(), r.greatest().Int64()}
}

// TestAllStates goes through all that credits of small windows can be, up to a limit, and does each small act in each.
func TestAllStates(t *testing.T) {
	const most = 9
	for window := 1; window <= 6; window++ {
		first := newRuled(window).state()
		seen := map[state][]act{first: nil}
		queue := []state{first}
		for len(queue) > 0 {
			path := seen[queue[0]]
			queue = queue[1:]
			for kind := take; kind <= read; kind++ {
				for n := -2; n <= most+2; n++ {
					c, r := play(t, window, path)
					act{kind, n}.do(t, c, r)
					is := r.state()
					if _, ok := seen[is]; !ok && is.limit <= most {
						seen[is] = append(path[:len(path):len(path)], act{kind, n})
						queue = append(queue, is)
					}
				}
			}
		}
		if len(seen) < 100 {
			t.Errorf("P13.1: a window of %d: only %d states", window, len(seen))
		}
	}
}

// edges are numbers about which a credit of that window may turn, and the ends of an int.
func edges(c *Credit, window int) []int {
	var all []int
	for _, at := range []int{
		0, window, window / 2, c.Limit(), c.Room(), c.Limit() - window, c.Limit() - window + window/2,
		1 << 20, 1<<31 - 1, 1 << 32, 1 << 39, 1<<39 - window, 1<<39 + window, 1 << 40, 1<<40 - c.Limit(), 1 << 62, low + 2, high - 2,
	} {
		for off := -2; off <= 2; off++ {
			all = append(all, at+off)
		}
	}
	return all
}

func TestRuled(t *testing.T) {
	draw := rand.New(rand.NewSource(13))
	windows := []int{1, 2, 3, 4, 5, 6, 7, 10, 11, 100, 4096, 1<<20 - 1, 1 << 20}
	for i := range 1300 {
		window := windows[i%len(windows)]
		c, r := made(t, window)
		for range 60 {
			n := draw.Intn(4 * window)
			switch all := edges(c, window); draw.Intn(4) {
			case 0:
				n = all[draw.Intn(len(all))]
			case 1:
				n += c.Limit() - 2*window
			}
			// The edges far above would soon leave nothing to be raised.
			if n > 1<<32 && draw.Intn(8) > 0 {
				n = draw.Intn(1 + c.Room())
			}
			act{draw.Intn(3), n}.do(t, c, r)
		}
	}
}

// TestEdges does each act at each edge, to credits that were used and that were not.
func TestEdges(t *testing.T) {
	for _, window := range []int{1, 2, 3, 10, 11, 1<<20 - 1, 1 << 20} {
		for _, path := range [][]act{
			nil,
			{{take, window}},
			{{take, window - 1}},
			{{take, 1}, {raise, window + 1}},
			{{raise, 3 * window}, {take, window + 1}},
			{{read, window}},
			{{read, window}, {take, 2 * window}},
			{{raise, 1 << 39}},
			{{raise, 1<<40 - 1}, {take, 1 << 39}},
			{{raise, 1 << 40}, {take, 1<<40 - 2}},
			{{raise, 1 << 40}, {take, 1 << 40}},
			{{read, 1 << 39}},
			{{read, 1<<39 - 1}},
			{{read, high}, {take, 1 << 39}},
			{{read, low}},
		} {
			c, _ := play(t, window, path)
			for _, n := range edges(c, window) {
				for kind := take; kind <= read; kind++ {
					c, r := play(t, window, path)
					act{kind, n}.do(t, c, r)
				}
			}
		}
	}
}

func TestNew(t *testing.T) {
	for _, x := range []struct {
		window int
		is     bool
	}{
		{low, false}, {-1 << 40, false}, {-1 << 20, false}, {-10, false}, {-1, false}, {0, false},
		{1, true}, {2, true}, {3, true}, {4096, true}, {1<<20 - 1, true}, {1 << 20, true},
		{1<<20 + 1, false}, {1 << 21, false}, {1 << 32, false}, {1<<32 + 1, false}, {1 << 40, false}, {1<<62 + 1, false}, {high, false},
	} {
		c := New(x.window)
		if (c != nil) != x.is {
			t.Errorf("P13.1: New(%d): %v", x.window, c)
		} else if x.is && (c.Limit() != x.window || c.Room() != x.window) {
			t.Errorf("P13.1: New(%d): Limit %d, Room %d", x.window, c.Limit(), c.Room())
		}
	}
}

func TestTake(t *testing.T) {
	c, _ := made(t, 10)
	for i, x := range []struct {
		n    int
		is   bool
		room int
	}{
		{0, true, 10}, {-1, false, 10}, {-10, false, 10}, {low, false, 10}, {11, false, 10}, {high, false, 10},
		{3, true, 7}, {8, false, 7}, {high, false, 7}, {high - 2, false, 7}, {high - 3, false, 7}, {-3, false, 7}, {low, false, 7}, {low + 3, false, 7}, {0, true, 7},
		{7, true, 0}, {1, false, 0}, {0, true, 0}, {-1, false, 0}, {-10, false, 0}, {high, false, 0},
	} {
		if got := c.Take(x.n); got != x.is || c.Room() != x.room || c.Limit() != 10 {
			t.Errorf("P13.1: the %d-th, Take(%d): %v, Room %d, Limit %d", i, x.n, got, c.Room(), c.Limit())
		}
	}
}

func TestRaise(t *testing.T) {
	c, _ := made(t, 10)
	c.Take(4)
	for i, x := range []struct {
		to    int
		is    bool
		limit int
	}{
		{10, false, 10}, {9, false, 10}, {0, false, 10}, {-1, false, 10}, {low, false, 10}, {1<<40 + 1, false, 10}, {high, false, 10},
		{11, true, 11}, {11, false, 11}, {10, false, 11}, {5000000, true, 5000000}, {4999999, false, 5000000},
		{1<<40 - 1, true, 1<<40 - 1}, {1<<40 + 1, false, 1<<40 - 1}, {1 << 41, false, 1<<40 - 1},
		{1 << 40, true, 1 << 40}, {1 << 40, false, 1 << 40}, {1<<40 + 1, false, 1 << 40}, {high, false, 1 << 40}, {low, false, 1 << 40}, {20, false, 1 << 40},
	} {
		if got := c.Raise(x.to); got != x.is || c.Limit() != x.limit || c.Room() != x.limit-4 {
			t.Errorf("P13.1: the %d-th, Raise(%d): %v, Limit %d, Room %d", i, x.to, got, c.Limit(), c.Room())
		}
	}
}

// reads is what Read is told, one call behind another, and what it is to answer.
type reads []struct {
	total, limit int
	more         bool
}

// holds asks it of c.
func (all reads) holds(t *testing.T, c *Credit) {
	t.Helper()
	for i, x := range all {
		if limit, more := c.Read(x.total); limit != x.limit || more != x.more || c.Limit() != x.limit {
			t.Errorf("P13.1: the %d-th, Read(%d): %d, %v, Limit %d; not %d, %v", i, x.total, limit, more, c.Limit(), x.limit, x.more)
		}
	}
}

func TestReadHalf(t *testing.T) {
	reads{{0, 10, false}, {1, 10, false}, {4, 10, false}, {5, 15, true}, {5, 15, false}, {9, 15, false}, {10, 20, true}, {14, 20, false}, {17, 27, true}}.holds(t, New(10))
	reads{{2, 7, false}, {3, 10, true}, {5, 10, false}, {6, 13, true}, {9, 16, true}}.holds(t, New(7))
	reads{{1, 4, true}, {2, 5, true}, {2, 5, false}}.holds(t, New(3))
	reads{{0, 2, false}, {1, 3, true}, {1, 3, false}, {2, 4, true}}.holds(t, New(2))
	reads{{1<<19 - 1, 1 << 20, false}, {1 << 19, 3 << 19, true}}.holds(t, New(1<<20))
	reads{{1<<19 - 2, 1<<20 - 1, false}, {1<<19 - 1, 3<<19 - 2, true}}.holds(t, New(1<<20-1))
}

// TestReadOfAWindowOfOne asks that as much as before is not more, though half of the window is nothing.
func TestReadOfAWindowOfOne(t *testing.T) {
	reads{{0, 1, false}, {0, 1, false}, {-1, 1, false}, {1, 2, true}, {1, 2, false}, {0, 2, false}, {2, 3, true}, {9, 10, true}, {9, 10, false}}.holds(t, New(1))
}

// TestReadGreatest asks that what was told counts, whatever is told behind it.
func TestReadGreatest(t *testing.T) {
	reads{{20, 30, true}, {3, 30, false}, {0, 30, false}, {-1, 30, false}, {low, 30, false}, {24, 30, false}, {2, 30, false}, {25, 35, true}}.holds(t, New(10))
	c := New(10)
	c.Raise(24)
	// Of 18 read, 28 is not so much more than 24 that it counts; of 3 behind it still not.
	reads{{18, 24, false}, {3, 24, false}, {19, 29, true}}.holds(t, c)
}

func TestReadVeryMuch(t *testing.T) {
	for _, much := range []int{1 << 39, 1<<39 + 1, 1<<39 + 5, 1 << 40, 1 << 62, high - 10, high - 9, high} {
		reads{{much, 1<<39 + 10, true}, {much, 1<<39 + 10, false}, {high, 1<<39 + 10, false}, {0, 1<<39 + 10, false}}.holds(t, New(10))
		reads{{much, 1<<39 + 1<<20, true}, {high, 1<<39 + 1<<20, false}}.holds(t, New(1<<20))
		reads{{1<<39 - 1, 1 << 39, true}, {much, 1<<39 + 1, true}, {high, 1<<39 + 1, false}}.holds(t, New(1))
		reads{{1<<39 - 5, 1<<39 + 5, true}, {1<<39 - 1, 1<<39 + 5, false}, {much, 1<<39 + 10, true}}.holds(t, New(10))
		reads{{1<<39 - 4, 1<<39 + 6, true}, {much, 1<<39 + 6, false}}.holds(t, New(10))
	}
	for _, little := range []int{-1, -5, -6, -10, -11, -1 << 39, low + 10, low + 1, low} {
		reads{{little, 10, false}, {4, 10, false}, {little, 10, false}, {5, 15, true}, {little, 15, false}}.holds(t, New(10))
	}
}

// TestReadBehindRaise asks that a limit that was raised counts too, and is never lowered.
func TestReadBehindRaise(t *testing.T) {
	c := New(10)
	c.Raise(100)
	reads{{0, 100, false}, {89, 100, false}, {90, 100, false}, {91, 100, false}, {94, 100, false}, {95, 105, true}}.holds(t, c)
	c.Raise(1 << 40)
	reads{{high, 1 << 40, false}, {200, 1 << 40, false}}.holds(t, c)
	if c.Room() != 1<<40 {
		t.Errorf("P13.1: Room: %d", c.Room())
	}
}

// TestReadMakesRoom asks that Read's limit is the one that Take is held to, and that taking changes nothing of reading.
func TestReadMakesRoom(t *testing.T) {
	c := New(10)
	if !c.Take(10) || c.Take(1) {
		t.Error("P13.1: Take of a window of 10")
	}
	reads{{4, 10, false}, {5, 15, true}}.holds(t, c)
	if c.Room() != 5 || !c.Take(5) || c.Take(1) {
		t.Errorf("P13.1: Room %d behind what was read", c.Room())
	}
	reads{{9, 15, false}, {10, 20, true}}.holds(t, c)
}

// TestRefusedChangesNothing asks of each call that is answered by false that all is as it was.
func TestRefusedChangesNothing(t *testing.T) {
	c := New(10)
	c.Take(3)
	before := *c
	for _, n := range []int{low, low + 1, -1, 8, 11, 1 << 40, high} {
		if c.Take(n) || *c != before {
			t.Errorf("P13.1: Take(%d): %v", n, *c)
		}
	}
	for _, n := range []int{low, -1, 0, 9, 10, 1<<40 + 1, high} {
		if c.Raise(n) || *c != before {
			t.Errorf("P13.1: Raise(%d): %v", n, *c)
		}
	}
}

func TestCreditsAreApart(t *testing.T) {
	one, other := New(10), New(10)
	one.Take(4)
	one.Raise(20)
	one.Read(50)
	if other.Limit() != 10 || other.Room() != 10 || one.Limit() != 60 || one.Room() != 56 {
		t.Errorf("R5: %v, %v", *one, *other)
	}
}

func TestNil(t *testing.T) {
	c := New(0)
	if c != nil {
		t.Fatal("P13.1: New(0)")
	}
	for _, n := range []int{low, -1, 0, 1, 5, high} {
		limit, more := c.Read(n)
		if limit != 0 || more || c.Take(n) || c.Raise(n) || c.Limit() != 0 || c.Room() != 0 {
			t.Errorf("R3: %d, %v, %v, %v, %d, %d", limit, more, c.Take(n), c.Raise(n), c.Limit(), c.Room())
		}
	}
}

// TestSize takes and reads very often, of which nothing stays behind.
func TestSize(t *testing.T) {
	c := New(4096)
	const times = 1000000
	told := 0
	for i := 1; i <= times; i++ {
		if !c.Take(1000) {
			t.Fatalf("P13.1: Take, the %d-th: Room %d", i, c.Room())
		}
		if _, more := c.Read(1000 * i); more {
			told++
		}
	}
	// Half of the window lets it be told each third time.
	if told != times/3 || c.Limit() != 1000*(times-1)+4096 {
		t.Errorf("P13.1: told %d times, Limit %d", told, c.Limit())
	}
}

func TestGoroutines(t *testing.T) {
	var all sync.WaitGroup
	for g := range 8 {
		all.Go(func() {
			c, r := New(g+1), newRuled(g+1)
			for n := range 60 {
				c.Take(n)
				c.Raise(n)
				c.Read(n)
				r.take(n)
				r.raise(n)
				r.read(n)
			}
			if int64(c.Limit()) != r.limit.Int64() || int64(c.Room()) != r.room().Int64() {
				t.Errorf("R5: window %d: Limit %d, Room %d", g+1, c.Limit(), c.Room())
			}
		})
	}
	all.Wait()
}
