package ladder

import (
	"math"
	"math/big"
	"math/rand"
	"slices"
	"sync"
	"testing"

	"mantilla/api"
)

// hosts are some numbers of hosts: both ends of an int, and what lies about 0 and the powers of 2.
func hosts() []int {
	return []int{
		math.MinInt, math.MinInt + 1, math.MinInt + 2, math.MinInt / 2, math.MinInt/2 - 1, -1 << 32, -1001, -5, -4, -3, -2, -1,
		0, 1, 2, 3, 4, 5, 6, 7, 1000, 1001, 1 << 32, 1<<61 + 1, 1 << 62, 1<<62 - 1, math.MaxInt - 2, math.MaxInt - 1, math.MaxInt,
	}
}

// ruledSlow tells by numbers of any size whether tick and 2 times host is a multiple of 4.
func ruledSlow(host, tick int) bool {
	sum := big.NewInt(int64(host))
	sum.Mul(sum, big.NewInt(2))
	sum.Add(sum, big.NewInt(int64(tick)))
	return sum.Mod(sum, big.NewInt(4)).Sign() == 0
}

// ruledBusy tells by numbers of any size whether an ask lies in what the promise names.
func ruledBusy(asks []int, tick int) bool {
	hi := big.NewInt(int64(tick))
	lo := new(big.Int).Sub(hi, big.NewInt(23))
	for _, ask := range asks {
		at := big.NewInt(int64(ask))
		if ask >= 0 && at.Cmp(lo) >= 0 && at.Cmp(hi) <= 0 {
			return true
		}
	}
	return false
}

func ruledSlot(host int, asks []int, tick int) bool {
	return tick >= 0 && (ruledBusy(asks, tick) || ruledSlow(host, tick))
}

// ruledSlots goes through the ticks by numbers of any size.
func ruledSlots(host int, asks []int, from, to int) []int {
	at, end := big.NewInt(int64(from)), big.NewInt(int64(to))
	if span := new(big.Int).Sub(end, at); span.Cmp(big.NewInt(10000)) >= 0 {
		return nil
	}
	var slots []int
	for ; at.Cmp(end) <= 0; at.Add(at, big.NewInt(1)) {
		if tick := int(at.Int64()); ruledSlot(host, asks, tick) {
			slots = append(slots, tick)
		}
	}
	return slots
}

// of is a ladder that was told of so many asks.
func of(host int, asks ...int) *Ladder {
	g := New(host)
	for _, tick := range asks {
		g.Ask(tick)
	}
	return g
}

// agree holds Busy and Slot at tick against what is ruled.
func agree(t *testing.T, g *Ladder, host int, asks []int, tick int) {
	t.Helper()
	if got, want := g.Busy(tick), ruledBusy(asks, tick); got != want {
		t.Fatalf("P10.1: host %d, asks %v: Busy(%d): %v", host, asks, tick, got)
	}
	if got, want := g.Slot(tick), ruledSlot(host, asks, tick); got != want {
		t.Fatalf("P10.1: host %d, asks %v: Slot(%d): %v", host, asks, tick, got)
	}
}

func TestNew(t *testing.T) {
	for _, host := range hosts() {
		g := New(host)
		if g == nil {
			t.Fatalf("P10.1: New(%d) is nil", host)
		}
		for _, tick := range []int{math.MinInt, -24, -1, 0, 1, 23, 24, 1000, math.MaxInt} {
			if g.Busy(tick) {
				t.Errorf("P10.1: host %d, of whom nothing was asked: Busy(%d)", host, tick)
			}
		}
	}
}

// TestSlow asks that hosts of even numbers and of odd ones take turns.
func TestSlow(t *testing.T) {
	for _, host := range hosts() {
		g := New(host)
		for tick := range 50 {
			want := tick%4 == 0
			if host%2 != 0 {
				want = tick%4 == 2
			}
			if got := g.Slot(tick); got != want {
				t.Errorf("P10.1: host %d: Slot(%d): %v", host, tick, got)
			}
		}
		for tick := math.MaxInt; tick > math.MaxInt-50; tick-- {
			agree(t, g, host, nil, tick)
		}
	}
}

func TestBelow(t *testing.T) {
	for _, host := range hosts() {
		for _, g := range []*Ladder{of(host), of(host, 0), of(host, 0, 1, math.MaxInt, -4, -8, -24), of(host, math.MinInt)} {
			for _, tick := range []int{-1, -2, -3, -4, -8, -22, -23, -24, -25, -100, math.MinInt32, math.MinInt, math.MinInt + 1, math.MinInt + 4, math.MinInt + 22, math.MinInt + 23} {
				if g.Busy(tick) || g.Slot(tick) {
					t.Errorf("P10.1: host %d, tick %d: %v, %v", host, tick, g.Busy(tick), g.Slot(tick))
				}
			}
		}
	}
}

// TestAskBelow asks that an ask below 0 is none, also where it would still hold at ticks from 0 on.
func TestAskBelow(t *testing.T) {
	for _, ask := range []int{-1, -2, -12, -22, -23, -24, -25, math.MinInt, math.MinInt + 1} {
		g := of(1, ask)
		for tick := -60; tick < 60; tick++ {
			agree(t, g, 1, nil, tick)
		}
		for tick := math.MaxInt; tick > math.MaxInt-60; tick-- {
			agree(t, g, 1, nil, tick)
		}
		g.Ask(40)
		for tick := -60; tick < 120; tick++ {
			agree(t, g, 1, []int{40}, tick)
		}
	}
}

func TestBusyEdges(t *testing.T) {
	for _, ask := range []int{0, 1, 2, 3, 23, 24, 25, 100, 1 << 31, 1 << 62, math.MaxInt - 100, math.MaxInt - 24} {
		g := of(1, ask)
		for _, x := range []struct {
			tick int
			want bool
		}{
			{ask - 1, false}, {ask, true}, {ask + 1, true}, {ask + 22, true},
			{ask + api.Hold - 1, true}, {ask + api.Hold, false},
			{0, ask == 0}, {math.MinInt, false}, {math.MaxInt, false},
		} {
			if got := g.Busy(x.tick); got != x.want {
				t.Errorf("P10.1: asked at %d: Busy(%d): %v", ask, x.tick, got)
			}
		}
		for tick := ask; tick < ask+24; tick++ {
			if !g.Slot(tick) {
				t.Errorf("P10.1: asked at %d: no Slot(%d)", ask, tick)
			}
		}
		for _, tick := range []int{ask - 2, ask - 1, ask + 24, ask + 25, ask + 26, ask + 27} {
			agree(t, g, 1, []int{ask}, tick)
		}
	}
}

func TestBusyAtTheEnd(t *testing.T) {
	for ago := range 30 {
		ask := math.MaxInt - ago
		for _, host := range hosts() {
			g := of(host, ask)
			for tick := math.MaxInt; tick > math.MaxInt-60; tick-- {
				agree(t, g, host, []int{ask}, tick)
			}
			for tick := math.MinInt; tick < math.MinInt+60; tick++ {
				agree(t, g, host, []int{ask}, tick)
			}
		}
	}
}

// TestNotReached asks that one may ask of ticks in any order, and that what is told of them changes nothing.
func TestNotReached(t *testing.T) {
	g := of(0, 1000)
	for _, tick := range []int{5000, 0, 1023, 1000, 999, 1024, 4999, 1001, 3, -1} {
		agree(t, g, 0, []int{1000}, tick)
	}
	g.Ask(10)
	g.Ask(5000)
	for _, tick := range []int{5000, 4999, 33, 34, 10, 9, 1023, 1024, 1000, 999, 5023, 5024, 12} {
		agree(t, g, 0, []int{1000, 10, 5000}, tick)
	}
}

func TestTwice(t *testing.T) {
	g := of(1, 7, 7, 7)
	for tick := range 60 {
		agree(t, g, 1, []int{7}, tick)
	}
}

func TestOrder(t *testing.T) {
	asks := []int{300, 0, 40, 41, 63, 64, 65, 120, 145, 299, 40}
	draw := rand.New(rand.NewSource(10))
	for range 20 {
		g := of(3, asks...)
		for tick := range 400 {
			agree(t, g, 3, asks, tick)
		}
		draw.Shuffle(len(asks), func(i, j int) { asks[i], asks[j] = asks[j], asks[i] })
	}
}

func TestLongRuns(t *testing.T) {
	draw := rand.New(rand.NewSource(1))
	for _, host := range hosts() {
		g := New(host)
		var asks []int
		for range 40 {
			ask := draw.Intn(600) - 50
			g.Ask(ask)
			asks = append(asks, ask)
			for range 10 {
				agree(t, g, host, asks, draw.Intn(700)-100)
			}
		}
	}
}

func TestSlots(t *testing.T) {
	for _, x := range []struct {
		host     int
		asks     []int
		from, to int
		want     []int
	}{
		{0, nil, 0, 8, []int{0, 4, 8}},
		{0, []int{}, 0, 8, []int{0, 4, 8}},
		{1, nil, 0, 8, []int{2, 6}},
		{0, nil, 4, 4, []int{4}},
		{0, nil, 5, 5, nil},
		{0, []int{5}, 5, 5, []int{5}},
		{0, nil, 0, 0, []int{0}},
		{0, nil, -1, -1, nil},
		{0, nil, 5, 4, nil},
		{0, nil, 0, -1, nil},
		{0, []int{0}, math.MaxInt, math.MinInt, nil},
		{0, []int{math.MaxInt}, math.MaxInt, math.MinInt, nil},
		{0, []int{0}, math.MaxInt - 3, math.MinInt + 4, nil},
		{0, []int{0}, 8, 0, nil},
		{0, []int{0}, 20000, 0, nil},
		{0, []int{0}, math.MinInt, math.MaxInt, nil},
		{0, []int{0}, 0, math.MaxInt, nil},
		{0, []int{0}, math.MinInt, 0, nil},
		{0, []int{0}, -1, math.MaxInt, nil},
		{0, nil, -8, 4, []int{0, 4}},
		{1, []int{-1, -2, -23, math.MinInt}, 0, 6, []int{2, 6}},
		{0, []int{2}, 24, 29, []int{24, 25, 28}},
		{1, []int{7, 3}, 0, 5, []int{2, 3, 4, 5}},
		{1, []int{31, 3}, 26, 32, []int{26, 30, 31, 32}},
		{1, []int{9, 9}, 7, 10, []int{9, 10}},
		{1, []int{100}, 0, 3, []int{2}},
		{1, []int{math.MaxInt}, math.MinInt, math.MinInt + 30, nil},
		{1, []int{math.MaxInt - 1}, math.MaxInt - 3, math.MaxInt, []int{math.MaxInt - 1, math.MaxInt}},
		{0, nil, math.MaxInt - 8, math.MaxInt, []int{math.MaxInt - 7, math.MaxInt - 3}},
		{0, []int{math.MaxInt}, math.MaxInt, math.MaxInt, []int{math.MaxInt}},
		{0, nil, math.MinInt, math.MinInt, nil},
	} {
		got := Slots(x.host, x.asks, x.from, x.to)
		if !slices.Equal(got, x.want) {
			t.Errorf("P10.1: Slots(%d, %v, %d, %d): %v", x.host, x.asks, x.from, x.to, got)
		}
	}
}

// TestSlotsMost asks for 10,000 ticks, and for one more, wherever they lie.
func TestSlotsMost(t *testing.T) {
	for _, from := range []int{0, 1, 2, 3, -1, -4, -5000, -9999, -10000, 7777, math.MinInt, math.MinInt + 1, math.MaxInt - 9999, math.MaxInt - 10001} {
		asks := []int{0, 5, 4000, 8000, 12000, math.MaxInt - 5000}
		want := ruledSlots(0, asks, from, from+9999)
		if got := Slots(0, asks, from, from+9999); !slices.Equal(got, want) {
			t.Errorf("P10.1: 10,000 ticks from %d on: %d of them, not %d", from, len(got), len(want))
		}
		if from > math.MaxInt-10000 {
			continue
		}
		if got := Slots(0, asks, from, from+10000); len(got) != 0 {
			t.Errorf("P10.1: one more, from %d on: %d of them", from, len(got))
		}
	}
	if got := Slots(1, nil, 0, 9999); len(got) != 2500 || got[0] != 2 || got[2499] != 9998 {
		t.Errorf("P10.1: each fourth of 10,000 ticks: %d of them", len(got))
	}
}

func TestSlotsAsRuled(t *testing.T) {
	draw := rand.New(rand.NewSource(2))
	for i := range 400 {
		host := hosts()[i%len(hosts())]
		asks := make([]int, draw.Intn(8))
		for k := range asks {
			asks[k] = draw.Intn(300) - 30
		}
		from := draw.Intn(300) - 60
		to := from + draw.Intn(100) - 2
		want := ruledSlots(host, asks, from, to)
		if got := Slots(host, asks, from, to); !slices.Equal(got, want) {
			t.Fatalf("P10.1: Slots(%d, %v, %d, %d): %v, not %v", host, asks, from, to, got, want)
		}
	}
}

// TestAsksStay asks that what is handed in stays, its spare room too, and is not kept.
func TestAsksStay(t *testing.T) {
	room := []int{50, 10, -3, 50, 7, 99, 98}
	before := slices.Clone(room)
	first := Slots(1, room[:5], 0, 100)
	if !slices.Equal(room, before) {
		t.Errorf("R4: the asks are now %v", room)
	}
	want := slices.Clone(first)
	second := Slots(1, room[:5], 0, 100)
	for i := range second[:cap(second)] {
		second[:cap(second)][i] = -1
	}
	if !slices.Equal(first, want) || !slices.Equal(room, before) {
		t.Error("R4: two answers, or one and the asks, share memory")
	}
	for i := range room {
		room[i] = 0
	}
	if !slices.Equal(first, want) {
		t.Error("R4: an answer hangs on the asks later on")
	}
}

func TestApart(t *testing.T) {
	a, b := New(1), New(1)
	if a == b {
		t.Fatal("R4: New answers the same one twice")
	}
	a.Ask(5)
	Slots(1, []int{11, 12}, 0, 50)
	for tick := range 60 {
		agree(t, a, 1, []int{5}, tick)
		agree(t, b, 1, nil, tick)
	}
}

func TestNilLadder(t *testing.T) {
	var g *Ladder
	for _, tick := range []int{math.MinInt, -1, 0, 1, 4, 24, math.MaxInt} {
		g.Ask(tick)
		if g.Busy(tick) || g.Slot(tick) {
			t.Errorf("R3: tick %d of nil: %v, %v", tick, g.Busy(tick), g.Slot(tick))
		}
	}
}

// TestMany asks that thousands of ticks, all of them asked for, end in moments.
func TestMany(t *testing.T) {
	asks := make([]int, 200000)
	for i := range asks {
		asks[i] = i / 2
	}
	if got := Slots(0, asks, 50000, 59999); len(got) != 10000 {
		t.Errorf("P10.1: of ticks that are all asked for: %d", len(got))
	}
	g := of(0, asks...)
	for tick := range 100023 {
		if !g.Slot(tick) {
			t.Fatalf("P10.1: no Slot(%d)", tick)
		}
	}
}

func TestAtOneTime(t *testing.T) {
	asks := []int{3, 60, 200}
	want := ruledSlots(1, asks, 0, 400)
	var all sync.WaitGroup
	for range 8 {
		all.Add(1)
		go func() {
			defer all.Done()
			if got := Slots(1, asks, 0, 400); !slices.Equal(got, want) {
				t.Errorf("R5: %v, not %v", got, want)
			}
		}()
	}
	all.Wait()
}

func TestLimits(t *testing.T) {
	if api.Hold != 24 || api.Slow != 4 {
		t.Errorf("Limits: %d, %d", api.Hold, api.Slow)
	}
}
