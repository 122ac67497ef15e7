package ranges

import (
	"math"
	"math/rand"
	"slices"
	"sync"
	"testing"

	"mantilla/api"
)

// ruled keeps each number by itself, as the promise tells it, without a range.
type ruled struct {
	most  int
	floor uint64
	came  map[uint64]int
}

func newRuled(most int) *ruled { return &ruled{most: most, came: map[uint64]int{}} }

func (r *ruled) list() []api.Range {
	var all []uint64
	for n := range r.came {
		all = append(all, n)
	}
	slices.Sort(all)
	var spans []api.Range
	for _, n := range all {
		if last := len(spans) - 1; last >= 0 && spans[last].Hi+1 == n {
			spans[last].Hi = n
			continue
		}
		spans = append(spans, api.Range{Lo: n, Hi: n})
	}
	slices.Reverse(spans)
	return spans
}

func (r *ruled) has(n uint64) bool { return r.came[n] == 1 || n < r.floor }

func (r *ruled) add(n uint64) bool {
	if n > api.MaxVar || r.has(n) {
		return false
	}
	r.came[n] = 1
	if spans := r.list(); len(spans) > r.most {
		r.below(spans[len(spans)-1].Hi + 1)
	}
	return true
}

func (r *ruled) below(n uint64) {
	r.floor = max(r.floor, n)
	var gone []uint64
	for m := range r.came {
		if m < r.floor {
			gone = append(gone, m)
		}
	}
	for _, m := range gone {
		delete(r.came, m)
	}
}

func (r *ruled) largest() (uint64, bool) {
	if spans := r.list(); len(spans) > 0 {
		return spans[0].Hi, true
	}
	return 0, false
}

// spans are the ranges of which the ends are told, each Lo ahead of its Hi.
func spans(ends ...uint64) []api.Range {
	var all []api.Range
	for i := 0; i < len(ends); i += 2 {
		all = append(all, api.Range{Lo: ends[i], Hi: ends[i+1]})
	}
	return all
}

// of is a set to which so many numbers were added.
func of(most int, numbers ...uint64) *Set {
	s := New(most)
	for _, n := range numbers {
		s.Add(n)
	}
	return s
}

// agree holds all that can be asked of s against what is ruled, near all that is there and at both ends.
func agree(t *testing.T, s *Set, r *ruled) {
	t.Helper()
	want := r.list()
	if got := s.List(); !slices.Equal(got, want) {
		t.Fatalf("P8.1: List: %v, not %v", got, want)
	}
	n, ok := s.Largest()
	if m, is := r.largest(); n != m || ok != is {
		t.Fatalf("P8.1: Largest: %d %v, not %d %v", n, ok, m, is)
	}
	asked := []uint64{0, 1, r.floor - 1, r.floor, r.floor + 1, api.MaxVar - 1, api.MaxVar, api.MaxVar + 1, math.MaxUint64}
	for _, x := range want {
		asked = append(asked, x.Lo-1, x.Lo, x.Lo+(x.Hi-x.Lo)/2, x.Hi, x.Hi+1)
	}
	for _, n := range asked {
		if got, want := s.Has(n), r.has(n); got != want {
			t.Fatalf("P8.1: Has(%d): %v, not %v, of %v above %d", n, got, want, s.List(), r.floor)
		}
	}
}

func TestNewBounds(t *testing.T) {
	for _, most := range []int{math.MinInt, -64, -1, 0, 65, 66, 128, 256, math.MaxInt} {
		if New(most) != nil {
			t.Errorf("P8.1: New(%d) is one", most)
		}
	}
	for most := 1; most <= 64; most++ {
		s := New(most)
		if s == nil {
			t.Fatalf("P8.1: New(%d) is nil", most)
		}
		agree(t, s, newRuled(most))
	}
}

func TestNewKeepsMost(t *testing.T) {
	for most := 1; most <= 64; most++ {
		s := New(most)
		for i := range most {
			if !s.Add(uint64(10 * i)) {
				t.Fatalf("P8.1: the %d-th of %d is not new", i, most)
			}
		}
		if got := s.List(); len(got) != most || got[most-1] != (api.Range{}) {
			t.Fatalf("P8.1: at most %d: %v", most, got)
		}
		if !s.Add(uint64(10*most)) || len(s.List()) != most || s.List()[most-1].Lo != 10 || !s.Has(0) || s.Has(1) || s.Add(0) {
			t.Fatalf("P8.1: one past %d: %v", most, s.List())
		}
	}
}

func TestAddKnown(t *testing.T) {
	for _, c := range []struct {
		name    string
		most    int
		numbers []uint64
		want    []api.Range
	}{
		{"the chapter's", 8, []uint64{5, 6, 9}, spans(9, 9, 5, 6)},
		{"rising", 8, []uint64{1, 2, 3, 4}, spans(1, 4)},
		{"falling", 8, []uint64{4, 3, 2, 1}, spans(1, 4)},
		{"twice", 8, []uint64{4, 4, 3, 4, 3}, spans(3, 4)},
		{"two joined", 8, []uint64{5, 7, 6}, spans(5, 7)},
		{"two joined of several", 8, []uint64{1, 5, 7, 11, 6}, spans(11, 11, 5, 7, 1, 1)},
		{"two greater ones joined", 8, []uint64{1, 2, 4, 5, 3}, spans(1, 5)},
		{"one apart", 8, []uint64{5, 7}, spans(7, 7, 5, 5)},
		{"above a lower one", 8, []uint64{5, 9, 6}, spans(9, 9, 5, 6)},
		{"below a higher one", 8, []uint64{5, 9, 8}, spans(8, 9, 5, 5)},
		{"at 0", 8, []uint64{0}, spans(0, 0)},
		{"1, and then 0", 8, []uint64{1, 0}, spans(0, 1)},
		{"at the greatest", 8, []uint64{api.MaxVar}, spans(api.MaxVar, api.MaxVar)},
		{"up to the greatest", 8, []uint64{api.MaxVar, api.MaxVar - 1}, spans(api.MaxVar-1, api.MaxVar)},
		{"above the greatest", 8, []uint64{api.MaxVar, api.MaxVar + 1, 1 << 63, math.MaxUint64}, spans(api.MaxVar, api.MaxVar)},
		{"none but above the greatest", 8, []uint64{api.MaxVar + 1, math.MaxUint64}, nil},
		{"both ends", 8, []uint64{api.MaxVar, 0}, spans(api.MaxVar, api.MaxVar, 0, 0)},
		{"one range alone", 1, []uint64{5, 6, 4}, spans(4, 6)},
		{"one range alone, then above it", 1, []uint64{5, 6, 9}, spans(9, 9)},
		{"one range alone, then below it", 1, []uint64{5, 6, 2}, spans(5, 6)},
		{"a lowest one of several", 2, []uint64{1, 2, 3, 9, 20}, spans(20, 20, 9, 9)},
		{"full, and one beside", 2, []uint64{1, 9, 10, 2}, spans(9, 10, 1, 2)},
		{"full, and one between", 2, []uint64{1, 3, 2}, spans(1, 3)},
		{"full, and one in the midst", 2, []uint64{1, 9, 5}, spans(9, 9, 5, 5)},
		{"again what was forgotten", 2, []uint64{1, 5, 9, 1}, spans(9, 9, 5, 5)},
	} {
		if got := of(c.most, c.numbers...).List(); !slices.Equal(got, c.want) {
			t.Errorf("P8.1: %s: %v, not %v", c.name, got, c.want)
		}
	}
}

func TestAddTellsNew(t *testing.T) {
	s := New(2)
	for i, c := range []struct {
		n    uint64
		want bool
	}{
		{api.MaxVar + 1, false}, {math.MaxUint64, false},
		{10, true}, {10, false}, {20, true}, {20, false}, {11, true}, {10, false}, {11, false},
		{5, true},  // forgotten at once, and new all the same
		{5, false}, // below the floor by now
		{4, false}, {0, false},
		{6, true}, {6, false}, // the floor itself is not below it
		{9, true},            // beside a range: none is forgotten
		{7, true}, {8, true}, // forgotten, then the floor is 8, beside a range
		{30, true}, {11, false}, {9, false}, {12, true}, {12, false},
		{19, true}, {13, true}, {api.MaxVar, true}, {api.MaxVar, false}, {20, false}, {21, true}, {29, true}, {22, true}, {28, true},
	} {
		if got := s.Add(c.n); got != c.want {
			t.Fatalf("P8.1: Add(%d), the %d-th: %v; %v", c.n, i, got, s.List())
		}
		if c.n <= api.MaxVar && !s.Has(c.n) {
			t.Fatalf("P8.1: %d, the %d-th, is not there: %v", c.n, i, s.List())
		}
	}
}

func TestForgottenWithTheNewOne(t *testing.T) {
	s := of(3, 10, 20, 30)
	if !s.Add(4) {
		t.Error("P8.1: a number that is forgotten at once is not new")
	}
	if !slices.Equal(s.List(), spans(30, 30, 20, 20, 10, 10)) || !s.Has(4) || !s.Has(0) || s.Has(5) {
		t.Errorf("P8.1: forgotten at once: %v", s.List())
	}
	if s.Add(4) || s.Add(3) || !s.Add(5) || !s.Has(5) || s.Has(6) {
		t.Error("P8.1: the floor is not the forgotten Hi and 1")
	}
}

func TestForgottenRangeWhole(t *testing.T) {
	s := of(2, 3, 4, 5, 9, 12)
	for n := range uint64(6) {
		if !s.Has(n) || s.Add(n) {
			t.Errorf("P8.1: %d is below the floor", n)
		}
	}
	if s.Has(6) || s.Has(8) || !s.Add(8) || !slices.Equal(s.List(), spans(12, 12, 8, 9)) {
		t.Errorf("P8.1: behind a forgotten range: %v", s.List())
	}
}

func TestBelowKnown(t *testing.T) {
	numbers := []uint64{2, 3, 4, 8, 9, 12}
	for _, c := range []struct {
		below uint64
		want  []api.Range
	}{
		{0, spans(12, 12, 8, 9, 2, 4)},
		{1, spans(12, 12, 8, 9, 2, 4)},
		{2, spans(12, 12, 8, 9, 2, 4)},
		{3, spans(12, 12, 8, 9, 3, 4)},
		{4, spans(12, 12, 8, 9, 4, 4)},
		{5, spans(12, 12, 8, 9)},
		{7, spans(12, 12, 8, 9)},
		{8, spans(12, 12, 8, 9)},
		{9, spans(12, 12, 9, 9)},
		{10, spans(12, 12)},
		{12, spans(12, 12)},
		{13, nil},
		{api.MaxVar, nil},
		{api.MaxVar + 1, nil},
		{math.MaxUint64, nil},
	} {
		s := of(8, numbers...)
		s.Below(c.below)
		if got := s.List(); !slices.Equal(got, c.want) {
			t.Errorf("P8.1: Below(%d): %v, not %v", c.below, got, c.want)
		}
		n, ok := s.Largest()
		if ok != (len(c.want) > 0) || ok && n != 12 || !ok && n != 0 {
			t.Errorf("P8.1: Largest behind Below(%d): %d %v", c.below, n, ok)
		}
		for n := range uint64(20) {
			want := n < c.below || slices.Contains(numbers, n)
			if s.Has(n) != want || s.Add(n) == want {
				t.Errorf("P8.1: %d behind Below(%d)", n, c.below)
			}
		}
	}
}

func TestFloorNeverSinks(t *testing.T) {
	s := New(4)
	s.Below(10)
	for _, n := range []uint64{0, 1, 5, 9, 10} {
		s.Below(n)
		if !s.Has(9) || s.Has(10) || s.Add(9) || len(s.List()) != 0 {
			t.Errorf("P8.1: Below(%d) behind Below(10)", n)
		}
	}
	if !s.Add(10) || !slices.Equal(s.List(), spans(10, 10)) {
		t.Errorf("P8.1: at the floor: %v", s.List())
	}
	s = of(1, 10, 20)
	s.Below(3)
	if !s.Has(10) || s.Has(11) || s.Add(10) || !slices.Equal(s.List(), spans(20, 20)) {
		t.Errorf("P8.1: Below a floor that rose by forgetting: %v", s.List())
	}
}

func TestBelowAtTheGreatest(t *testing.T) {
	s := of(4, api.MaxVar-1, api.MaxVar)
	s.Below(api.MaxVar)
	if !slices.Equal(s.List(), spans(api.MaxVar, api.MaxVar)) || s.Add(api.MaxVar-1) {
		t.Errorf("P8.1: Below the greatest: %v", s.List())
	}
	s.Below(api.MaxVar + 1)
	if len(s.List()) != 0 || !s.Has(api.MaxVar) || s.Add(api.MaxVar) || s.Has(api.MaxVar+1) {
		t.Errorf("P8.1: Below above the greatest: %v", s.List())
	}
	s.Below(math.MaxUint64)
	if !s.Has(math.MaxUint64-1) || s.Has(math.MaxUint64) || s.Add(math.MaxUint64) {
		t.Error("P8.1: Below the greatest of all")
	}
}

func TestLargest(t *testing.T) {
	s := New(2)
	for _, c := range []struct{ n, want uint64 }{{0, 0}, {7, 7}, {3, 7}, {8, 8}, {1, 8}, {api.MaxVar, api.MaxVar}, {9, api.MaxVar}} {
		s.Add(c.n)
		if got, ok := s.Largest(); got != c.want || !ok {
			t.Errorf("P8.1: Largest behind %d: %d %v", c.n, got, ok)
		}
	}
}

// TestAnyOrder adds all orders of a few numbers: what is there in the end hangs on which they are, while none is forgotten.
func TestAnyOrder(t *testing.T) {
	var walk func(head, rest []uint64)
	walk = func(head, rest []uint64) {
		if len(rest) == 0 {
			if got := of(8, head...).List(); !slices.Equal(got, spans(9, 9, 6, 7, 0, 2)) {
				t.Fatalf("P8.1: %v: %v", head, got)
			}
		}
		for i := range rest {
			walk(append(slices.Clone(head), rest[i]), append(slices.Clone(rest[:i]), rest[i+1:]...))
		}
	}
	walk(nil, []uint64{0, 1, 2, 6, 7, 9})
}

// TestRuled walks sets and their rule side by side, where numbers lie close and where they lie at the greatest one.
func TestRuled(t *testing.T) {
	draw := rand.New(rand.NewSource(8))
	for round := range 600 {
		most := 1 + draw.Intn(6)
		if round%20 == 0 {
			most = 64
		}
		s, r := New(most), newRuled(most)
		span := 2 + draw.Int63n(int64(6*most))
		base := uint64(0)
		if round%3 == 1 {
			base = api.MaxVar - uint64(span)/2
		}
		for range 150 {
			n := base + uint64(draw.Int63n(span))
			if draw.Intn(25) == 0 {
				s.Below(n)
				r.below(n)
			} else if got, want := s.Add(n), r.add(n); got != want {
				t.Fatalf("P8.1: Add(%d): %v, not %v", n, got, want)
			}
			agree(t, s, r)
		}
	}
}

func TestListIsTheCallersOwn(t *testing.T) {
	s := of(8, 1, 5, 6, 9)
	want := spans(9, 9, 5, 6, 1, 1)
	first, second := s.List(), s.List()
	for i := range first {
		first[i] = api.Range{Lo: 77, Hi: 78}
	}
	first = append(first, api.Range{Lo: 79, Hi: 80})
	spare := first[:cap(first)]
	for i := range spare {
		spare[i] = api.Range{Lo: 81, Hi: 82}
	}
	if !slices.Equal(second, want) || !slices.Equal(s.List(), want) {
		t.Errorf("R4: List is shared: %v, %v", second, s.List())
	}
	s.Add(2)
	s.Add(7)
	s.Add(20)
	s.Below(6)
	if !slices.Equal(second, want) || !slices.Equal(s.List(), spans(20, 20, 9, 9, 6, 7)) {
		t.Errorf("R4: an answer changed behind its call: %v, %v", second, s.List())
	}
}

func TestSpareRoomIsNotShared(t *testing.T) {
	s := of(8, 1, 3, 5, 7, 9)
	s.Below(8)
	list := s.List()
	list = append(list, api.Range{Lo: 1, Hi: 1}, api.Range{Lo: 2, Hi: 2})
	s.Add(20)
	s.Add(30)
	if !slices.Equal(list, spans(9, 9, 1, 1, 2, 2)) || !slices.Equal(s.List(), spans(30, 30, 20, 20, 9, 9)) {
		t.Errorf("R4: spare room is shared: %v, %v", list, s.List())
	}
}

func TestAskingChangesNothing(t *testing.T) {
	s, r := of(2, 4, 8, 9, 20), newRuled(2)
	for _, n := range []uint64{4, 8, 9, 20} {
		r.add(n)
	}
	for range 3 {
		agree(t, s, r)
		if s.Add(4) || s.Add(9) || s.Add(api.MaxVar+1) {
			t.Error("P8.1: what is there counts as new")
		}
	}
}

func TestSetsAreApart(t *testing.T) {
	a, b := New(2), New(2)
	a.Add(1)
	a.Below(9)
	if b.Has(1) || b.Has(0) || len(b.List()) != 0 || !b.Add(1) {
		t.Error("R5: one set hangs on another")
	}
}

func TestNil(t *testing.T) {
	var s *Set
	s.Below(5)
	s.Below(math.MaxUint64)
	for _, n := range []uint64{0, 1, api.MaxVar, math.MaxUint64} {
		if s.Add(n) || s.Has(n) {
			t.Errorf("R3: of %d", n)
		}
	}
	if n, ok := s.Largest(); n != 0 || ok || len(s.List()) != 0 {
		t.Error("R3: of none")
	}
}

func TestSize(t *testing.T) {
	s := New(64)
	for n := uint64(0); n < 1_000_000; n++ {
		s.Add(n ^ 1)
	}
	if !slices.Equal(s.List(), spans(0, 999_999)) {
		t.Errorf("P8.1: a million numbers: %v", s.List())
	}
	for n := uint64(1); n <= 500_000; n++ {
		if !s.Add(1_000_000 + 2*n) {
			t.Fatalf("P8.1: %d is not new", n)
		}
	}
	if got := s.List(); len(got) != 64 || got[63].Lo != 2_000_000-2*63 || cap(s.list) > 1024 {
		t.Errorf("P8.1: many ranges: %d of them, room for %d", len(got), cap(s.list))
	}
}

func TestGoroutines(t *testing.T) {
	var all sync.WaitGroup
	for g := range 8 {
		all.Go(func() {
			s, r := New(3), newRuled(3)
			draw := rand.New(rand.NewSource(int64(g)))
			for range 500 {
				n := uint64(draw.Intn(40))
				if s.Add(n) != r.add(n) {
					t.Errorf("R5: Add(%d)", n)
				}
			}
			if !slices.Equal(s.List(), r.list()) {
				t.Errorf("R5: %v", s.List())
			}
		})
	}
	all.Wait()
}
