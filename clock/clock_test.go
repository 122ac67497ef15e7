package clock

import (
	"math"
	"math/rand"
	"sync"
	"testing"

	"mantilla/api"
)

// sample is what is told of one answer.
type sample struct{ rtt, delay int }

// held is what can be asked of a clock.
type held struct{ smoothed, varies, least int }

// heldBy asks c.
func heldBy(c *Clock) held { return held{c.Smoothed(), c.Varies(), c.Least()} }

// by divides downwards, as the promise has it, also what is below 0.
func by(a, b int) int { return int(math.Floor(float64(a) / float64(b))) }

// ruled reckons from all samples at once what the promise tells of them.
func ruled(told []sample) held {
	var counts []sample
	for _, s := range told {
		if s.rtt >= 0 && s.rtt <= 1048576 && s.delay >= 0 {
			counts = append(counts, s)
		}
	}
	if len(counts) == 0 {
		return held{16, 8, 0}
	}
	h := held{counts[0].rtt, by(counts[0].rtt, 2), counts[0].rtt}
	for _, s := range counts[1:] {
		if s.rtt < h.least {
			h.least = s.rtt
		}
		if s.delay > 25 {
			s.delay = 25
		}
		if s.rtt-s.delay >= h.least {
			s.rtt -= s.delay
		}
		far := h.smoothed - s.rtt
		if far < 0 {
			far = -far
		}
		h.varies = by(3*h.varies+far, 4)
		h.smoothed = by(7*h.smoothed+s.rtt, 8)
	}
	return h
}

// ruledPTO doubles step by step, as the promise has it.
func ruledPTO(h held, times int) int {
	wait := h.smoothed + 1
	if h.varies > 0 {
		wait = h.smoothed + 4*h.varies
	}
	if wait < 40 {
		wait = 40
	}
	for i := 0; i < times && i < 10; i++ {
		wait *= 2
	}
	if wait > 64 {
		wait = 64
	}
	return wait
}

// of is a clock to which so many samples were told.
func of(told ...sample) *Clock {
	c := New()
	for _, s := range told {
		c.Sample(s.rtt, s.delay)
	}
	return c
}

// same tells n times over that answers took rtt.
func same(rtt, n int) []sample {
	told := make([]sample, n)
	for i := range told {
		told[i].rtt = rtt
	}
	return told
}

// agree holds all that can be asked of a clock against what is ruled of told.
func agree(t *testing.T, c *Clock, told []sample) {
	t.Helper()
	want := ruled(told)
	if got := heldBy(c); got != want {
		t.Fatalf("P9.1: %v: %v, not %v", told, got, want)
	}
	for _, times := range []int{math.MinInt, -1, 0, 1, 2, 9, 10, 11, 64, math.MaxInt} {
		if got, want := c.PTO(times), ruledPTO(want, times); got != want {
			t.Fatalf("P9.1: %v: PTO(%d): %d, not %d", told, times, got, want)
		}
	}
}

func TestNew(t *testing.T) {
	c := New()
	if c == nil {
		t.Fatal("P9.1: New is nil")
	}
	if got, want := heldBy(c), (held{16, 8, 0}); got != want {
		t.Errorf("P9.1: New: %v, not %v", got, want)
	}
	if got := New().PTO(0); got != 48 {
		t.Errorf("P9.1: New().PTO(0): %d, not 48", got)
	}
}

func TestFirst(t *testing.T) {
	for _, x := range []struct {
		sample
		want held
	}{
		{sample{0, 0}, held{0, 0, 0}},
		{sample{1, 0}, held{1, 0, 1}},
		{sample{2, 0}, held{2, 1, 2}},
		{sample{3, 0}, held{3, 1, 3}},
		{sample{16, 0}, held{16, 8, 16}},
		{sample{1<<20 - 1, 0}, held{1<<20 - 1, 1<<19 - 1, 1<<20 - 1}},
		{sample{1 << 20, 0}, held{1 << 20, 1 << 19, 1 << 20}},
		{sample{100, 10}, held{100, 50, 100}},
		{sample{100, 100}, held{100, 50, 100}},
		{sample{0, math.MaxInt}, held{0, 0, 0}},
	} {
		if got := heldBy(of(x.sample)); got != x.want {
			t.Errorf("P9.1: the first one, %v: %v, not %v", x.sample, got, x.want)
		}
	}
}

func TestLater(t *testing.T) {
	for _, x := range []struct {
		told []sample
		want held
	}{
		{[]sample{{100, 0}, {100, 0}}, held{100, 37, 100}},
		{[]sample{{100, 0}, {108, 0}}, held{101, 39, 100}},
		{[]sample{{100, 0}, {92, 0}}, held{99, 39, 92}},
		{[]sample{{100, 0}, {60, 0}, {80, 0}}, held{93, 39, 60}},
		{[]sample{{0, 0}, {1 << 20, 0}}, held{1 << 17, 1 << 18, 0}},
		{[]sample{{1 << 20, 0}, {0, 0}}, held{7 << 17, 5 << 17, 0}},
	} {
		if got := heldBy(of(x.told...)); got != x.want {
			t.Errorf("P9.1: %v: %v, not %v", x.told, got, x.want)
		}
	}
}

func TestCountsForNothing(t *testing.T) {
	wrong := []sample{
		{-1, 0}, {math.MinInt, 0}, {1<<20 + 1, 0}, {math.MaxInt, 0},
		{5, -1}, {0, -1}, {1 << 20, -1}, {5, math.MinInt}, {-1, -1}, {1<<20 + 1, 1}, {math.MinInt, math.MaxInt}, {math.MaxInt, math.MinInt},
	}
	for _, w := range wrong {
		if got, want := heldBy(of(w)), (held{16, 8, 0}); got != want {
			t.Errorf("P9.1: %v alone: %v, not %v", w, got, want)
		}
		if got, want := heldBy(of(w, sample{100, 7})), (held{100, 50, 100}); got != want {
			t.Errorf("P9.1: %v, and a first one: %v, not %v", w, got, want)
		}
		if got, want := heldBy(of(sample{100, 0}, w, sample{108, 8})), (held{100, 37, 100}); got != want {
			t.Errorf("P9.1: %v between two: %v, not %v", w, got, want)
		}
	}
}

func TestCountsAtBounds(t *testing.T) {
	for _, x := range []struct {
		sample
		want held
	}{
		{sample{0, 0}, held{87, 62, 0}},
		{sample{0, 1}, held{87, 62, 0}},
		{sample{1 << 20, 0}, held{131159, 262156, 100}},
		{sample{1 << 20, 16}, held{131157, 262152, 100}},
	} {
		if got := heldBy(of(sample{100, 0}, x.sample)); got != x.want {
			t.Errorf("P9.1: %v, the second: %v, not %v", x.sample, got, x.want)
		}
	}
}

func TestDelay(t *testing.T) {
	for _, x := range []struct {
		sample
		takenOff int
	}{
		{sample{180, 0}, 0},
		{sample{180, 1}, 1},
		{sample{180, 24}, 24},
		{sample{180, 25}, 25},
		{sample{180, 26}, 25},
		{sample{180, 1000}, 25},
		{sample{180, math.MaxInt}, 25},
		{sample{110, 9}, 9},
		{sample{110, 10}, 10},
		{sample{110, 11}, 0},
		{sample{110, math.MaxInt}, 0},
		{sample{125, 25}, 25},
		{sample{125, 26}, 25},
		{sample{125, math.MaxInt}, 25},
		{sample{124, 24}, 24},
		{sample{124, 25}, 0},
		{sample{124, 26}, 0},
		{sample{100, 1}, 0},
		{sample{100, 0}, 0},
		{sample{99, 1}, 0},
		{sample{40, 25}, 0},
		{sample{40, 60}, 0},
	} {
		// Of a first one of 100 all that follows is known.
		rtt := x.rtt - x.takenOff
		want := held{by(700+rtt, 8), by(150+max(100-rtt, rtt-100), 4), min(100, x.rtt)}
		if got := heldBy(of(sample{100, 0}, x.sample)); got != want {
			t.Errorf("P9.1: 100, and %v: %v, not %v", x.sample, got, want)
		}
	}
}

// TestLeastIsTold asks that Least is of what was told, not of what is left of it without the delay.
func TestLeastIsTold(t *testing.T) {
	c := of(sample{100, 0}, sample{90, 0}, sample{110, 20})
	if got := c.Least(); got != 90 {
		t.Errorf("P9.1: Least: %d, not 90", got)
	}
	if c = of(sample{100, 50}); c.Least() != 100 {
		t.Errorf("P9.1: Least of a first one with a delay: %d, not 100", c.Least())
	}
	c.Sample(80, 20)
	if got := c.Least(); got != 80 {
		t.Errorf("P9.1: Least of a later one with a delay: %d, not 80", got)
	}
}

func TestDownwards(t *testing.T) {
	for first := range 24 {
		for second := range 48 {
			told := []sample{{first, 0}, {second, 0}}
			far := second - first
			if far < 0 {
				far = -far
			}
			want := held{by(7*first+second, 8), by(3*by(first, 2)+far, 4), min(first, second)}
			if got := heldBy(of(told...)); got != want {
				t.Fatalf("P9.1: %v: %v, not %v", told, got, want)
			}
		}
	}
}

// TestOrder asks that Varies is reckoned of what was smoothed ahead of a sample: 80 ticks from it, not 70.
func TestOrder(t *testing.T) {
	for _, x := range []struct {
		rtt  int
		want held
	}{{180, held{110, 57, 100}}, {20, held{90, 57, 20}}} {
		if got := heldBy(of(sample{100, 0}, sample{x.rtt, 0})); got != x.want {
			t.Errorf("P9.1: 100, and %d: %v, not %v", x.rtt, got, x.want)
		}
	}
}

func TestPTOTimes(t *testing.T) {
	for _, told := range [][]sample{nil, {{0, 0}}, {{14, 0}}, same(50, 40), {{1 << 20, 0}}} {
		c := of(told...)
		before := heldBy(c)
		for _, times := range []int{-1, -2, -10, -63, -64, math.MinInt32, math.MinInt} {
			if got, want := c.PTO(times), c.PTO(0); got != want {
				t.Errorf("P9.1: PTO(%d): %d, not %d", times, got, want)
			}
		}
		for times := 1; times <= 10; times++ {
			if got := c.PTO(times); got != 64 {
				t.Errorf("P9.1: PTO(%d): %d, not 64", times, got)
			}
		}
		for _, times := range []int{11, 12, 31, 32, 57, 58, 62, 63, 64, 65, 128, math.MaxInt32, math.MaxInt} {
			if got := c.PTO(times); got != 64 {
				t.Errorf("P9.1: PTO(%d): %d, not 64", times, got)
			}
		}
		if heldBy(c) != before {
			t.Errorf("P9.1: PTO changed %v", before)
		}
	}
}

func TestPTOBounds(t *testing.T) {
	for _, x := range []struct {
		told []sample
		want int
	}{
		{[]sample{{0, 0}}, 40},
		{[]sample{{1, 0}}, 40},
		{[]sample{{13, 0}}, 40},                   // 13 and 24
		{[]sample{{12, 0}, {12, 0}}, 40},          // 12 and 16
		{[]sample{{14, 0}}, 42},                   // 14 and 28
		{[]sample{{15, 0}}, 43},                   // 15 and 28
		{[]sample{{20, 0}}, 60},                   // 20 and 40
		{[]sample{{21, 0}}, 61},                   // 21 and 40
		{[]sample{{22, 0}}, 64},                   // 22 and 44
		{[]sample{{23, 0}}, 64},                   // 23 and 44
		{[]sample{{16, 0}, {16, 0}, {16, 0}}, 40}, // 16 and 16
		{[]sample{{28, 0}, {28, 0}, {28, 0}}, 56}, // 28 and 28
		{[]sample{{1 << 20, 0}}, 64},
		{[]sample{{0, 0}, {1 << 20, 0}}, 64},
	} {
		if got := of(x.told...).PTO(0); got != x.want {
			t.Errorf("P9.1: %v: PTO(0): %d, not %d", x.told, got, x.want)
		}
	}
}

// TestPTOWithoutVaries asks for 1 tick where samples do not vary at all, and nowhere else.
func TestPTOWithoutVaries(t *testing.T) {
	for rtt := 1; rtt <= 80; rtt++ {
		c := of(same(rtt, 40)...)
		if got, want := heldBy(c), (held{rtt, 0, rtt}); got != want {
			t.Fatalf("P9.1: %d, again and again: %v, not %v", rtt, got, want)
		}
		if got, want := c.PTO(0), min(max(rtt+1, 40), 64); got != want {
			t.Errorf("P9.1: %d, again and again: PTO(0): %d, not %d", rtt, got, want)
		}
	}
	c := of(same(50, 9)...)
	if c.Varies() != 1 || c.PTO(0) != 54 {
		t.Errorf("P9.1: Varies %d, not 1, and PTO(0) %d, not 54", c.Varies(), c.PTO(0))
	}
}

func TestAllShort(t *testing.T) {
	var some []sample
	for _, rtt := range []int{-1, 0, 1, 7, 25, 26, 60, 1 << 20, 1<<20 + 1} {
		for _, delay := range []int{-1, 0, 1, 25, 26, 59} {
			some = append(some, sample{rtt, delay})
		}
	}
	for _, a := range some {
		for _, b := range some {
			for _, z := range some {
				told := []sample{a, b, z}
				agree(t, of(told...), told)
			}
		}
	}
}

func TestLongRuns(t *testing.T) {
	draw := rand.New(rand.NewSource(9))
	for _, most := range []int{3, 30, 300, 1<<20 + 2} {
		for range 20 {
			c := New()
			var told []sample
			for range 60 {
				s := sample{draw.Intn(most) - 1, draw.Intn(40) - 2}
				c.Sample(s.rtt, s.delay)
				told = append(told, s)
				agree(t, c, told)
			}
		}
	}
}

// TestMany asks that thousands of samples, also of the longest, end in moments and within bounds.
func TestMany(t *testing.T) {
	c := New()
	for i := range 200000 {
		c.Sample(i%2<<20, i)
		if h := heldBy(c); h.least != 0 || h.smoothed < 0 || h.smoothed > 1<<20 || h.varies < 0 || h.varies > 1<<20 || c.PTO(i) != 64 && i > 0 {
			t.Fatalf("P9.1: the %d-th: %v, PTO %d", i, h, c.PTO(i))
		}
	}
}

func TestNilClock(t *testing.T) {
	var c *Clock
	c.Sample(1, 1)
	c.Sample(-1, -1)
	if got := heldBy(c); got != (held{}) {
		t.Errorf("R3: of nil: %v", got)
	}
	for _, times := range []int{math.MinInt, -1, 0, 1, 10, 11, math.MaxInt} {
		if got := c.PTO(times); got != 0 {
			t.Errorf("R3: PTO(%d) of nil: %d", times, got)
		}
	}
}

// TestApart asks that clocks hang on their own samples alone.
func TestApart(t *testing.T) {
	a, b := New(), New()
	if a == b {
		t.Fatal("R4: New answers the same one twice")
	}
	a.Sample(1000, 0)
	agree(t, a, []sample{{1000, 0}})
	agree(t, b, nil)
	b.Sample(3, 0)
	agree(t, a, []sample{{1000, 0}})
	agree(t, b, []sample{{3, 0}})
	agree(t, New(), nil)
}

func TestAtOneTime(t *testing.T) {
	var all sync.WaitGroup
	for i := range 8 {
		all.Add(1)
		go func() {
			defer all.Done()
			c := New()
			told := same(10*i, 20)
			for _, s := range told {
				c.Sample(s.rtt, s.delay)
			}
			if got, want := heldBy(c), ruled(told); got != want || c.PTO(0) != ruledPTO(want, 0) {
				t.Errorf("R5: %v, not %v", got, want)
			}
		}()
	}
	all.Wait()
}

func TestLimits(t *testing.T) {
	if api.MinPTO != 40 || api.MaxPTO != 64 {
		t.Errorf("Limits: %d, %d", api.MinPTO, api.MaxPTO)
	}
}
