package tests

import (
	"math"
	"math/big"
	"slices"
	"testing"

	"loop.example/g01138/impl"
)

func TestChapter2Example(t *testing.T) {
	p := mustParse(t, "4:0<1,0<2,1<3,2<3")
	for s, want := range map[int]int{0: 1, 1: 7, 7: 15, 15: 0, 3: 5, 5: 3} {
		if got, ok := impl.Rowmotion(p, s); !ok || got != want {
			t.Errorf("Rowmotion(%d) = %d, %v", s, got, ok)
		}
		if got, ok := impl.RowmotionBack(p, want); !ok || got != s {
			t.Errorf("RowmotionBack(%d) = %d, %v", want, got, ok)
		}
	}
	if got, ok := impl.PromoteIdeal(2, 2, 0); !ok || got != 3 {
		t.Errorf("PromoteIdeal = %d, %v", got, ok)
	}
	for _, word := range [][]int{{2, 0, 3, 1}, {2, 3, 0, 1}} {
		if got, ok := impl.ToggleWord(p, 0, word); !ok || got != 3 {
			t.Errorf("ToggleWord(%v) = %d, %v", word, got, ok)
		}
	}
}

func TestLimitsOfChapter2(t *testing.T) {
	if impl.MaxWord != 100 || impl.MaxMotions != 1000 {
		t.Errorf("MaxWord = %d, MaxMotions = %d", impl.MaxWord, impl.MaxMotions)
	}
}

func TestTogglesUndoThemselves(t *testing.T) {
	for _, p := range somePosets() {
		r := relationOf(p.Less)
		for _, s := range r.ideals() {
			changing := 0
			for e := range r {
				want := r.toggled(s, e)
				got, ok := impl.ToggleAt(p, s, e)
				if !ok || got != want {
					t.Errorf("ToggleAt(%v, %d, %d) = %d, %v, not %d", p, s, e, got, ok, want)
				}
				if back, ok := impl.ToggleAt(p, got, e); !ok || back != s {
					t.Errorf("ToggleAt(%v, %d, %d) twice = %d, %v", p, s, e, back, ok)
				}
				if want != s {
					changing += power(e)
				}
			}
			if got, ok := impl.CanToggle(p, s); !ok || got != changing {
				t.Errorf("CanToggle(%v, %d) = %d, %v, not %d", p, s, got, ok, changing)
			}
		}
	}
}

func TestTogglesThatChangeNothing(t *testing.T) {
	chain := mustParse(t, "4:0<1,1<2,2<3")
	for s, element := range map[int]int{0: 3, 1: 3, 3: 0, 7: 0, 15: 2} {
		if got, ok := impl.ToggleAt(chain, s, element); !ok || got != s {
			t.Errorf("ToggleAt(%d, %d) = %d, %v", s, element, got, ok)
		}
	}
	for s, want := range map[int]int{0: 1, 1: 3, 3: 6, 7: 12, 15: 8} {
		if got, ok := impl.CanToggle(chain, s); !ok || got != want {
			t.Errorf("CanToggle(%d) = %d, %v", s, got, ok)
		}
	}
}

func TestToggleWord(t *testing.T) {
	for _, p := range somePosets() {
		r := relationOf(p.Less)
		for _, word := range someWords(len(r)) {
			back := slices.Clone(word)
			slices.Reverse(back)
			for _, s := range r.ideals() {
				want := r.toggledAt(s, word)
				got, ok := impl.ToggleWord(p, s, word)
				if !ok || got != want {
					t.Errorf("ToggleWord(%v, %d, %v) = %d, %v, not %d", p, s, word, got, ok, want)
				}
				if start, ok := impl.ToggleWord(p, got, back); !ok || start != s {
					t.Errorf("ToggleWord(%v, %d, %v) = %d, %v, not %d", p, got, back, start, ok, s)
				}
			}
		}
	}
}

func TestWordsAtMaxWord(t *testing.T) {
	p := mustParse(t, "3:0<1,1<2")
	longest := slices.Repeat([]int{0, 1, 2, 1}, 25)
	tooLong := append(slices.Clone(longest), 0)
	if got, ok := impl.ToggleWord(p, 0, longest); !ok || got != relationOf(p.Less).toggledAt(0, longest) {
		t.Errorf("ToggleWord of 100 = %d, %v", got, ok)
	}
	if got, ok := impl.ToggleCycles(p, longest); !ok || len(got) == 0 {
		t.Errorf("ToggleCycles of 100 = %v, %v", got, ok)
	}
	if got, ok := impl.OrderOfWord(p, longest); !ok || got == 0 {
		t.Errorf("OrderOfWord of 100 = %v, %v", got, ok)
	}
	for _, word := range [][]int{tooLong, make([]int, 101), make([]int, 100000)} {
		checkWordFails(t, p, 0, word)
	}
}

func TestRowmotion(t *testing.T) {
	for _, p := range somePosets() {
		for s, want := range relationOf(p.Less).rows() {
			if got, ok := impl.Rowmotion(p, s); !ok || got != want {
				t.Errorf("Rowmotion(%v, %d) = %d, %v, not %d", p, s, got, ok, want)
			}
			if got, ok := impl.RowmotionBack(p, want); !ok || got != s {
				t.Errorf("RowmotionBack(%v, %d) = %d, %v, not %d", p, want, got, ok, s)
			}
		}
	}
}

func TestRowmotionTimes(t *testing.T) {
	for _, p := range append(largePosets(), append(everyPoset(4), impl.Poset{Less: []int{0}})...) {
		next := relationOf(p.Less).rows()
		for s := range next {
			after := s
			for k := range 13 {
				if got, ok := impl.RowmotionTimes(p, s, k); !ok || got != after {
					t.Errorf("RowmotionTimes(%v, %d, %d) = %d, %v, not %d", p, s, k, got, ok, after)
				}
				if got, ok := impl.RowmotionTimes(p, after, -k); !ok || got != s {
					t.Errorf("RowmotionTimes(%v, %d, %d) = %d, %v, not %d", p, after, -k, got, ok, s)
				}
				after = next[after]
			}
		}
	}
}

func TestRowmotionAtMaxMotions(t *testing.T) {
	// Seven motions lead back in the chain, so that neither 999 nor 1000 do.
	for _, p := range []impl.Poset{mustParse(t, "6:0<1,1<2,2<3,3<4,4<5"), mustParse(t, "6:0<1,0<3,1<2,1<4,2<5,3<4,4<5"), pentagon()} {
		next := relationOf(p.Less).rows()
		for s := range next {
			after := s
			for range 999 {
				after = next[after]
			}
			for _, k := range []int{999, 1000} {
				if got, ok := impl.RowmotionTimes(p, s, k); !ok || got != after {
					t.Errorf("RowmotionTimes(%v, %d, %d) = %d, %v, not %d", p, s, k, got, ok, after)
				}
				if got, ok := impl.RowmotionTimes(p, after, -k); !ok || got != s {
					t.Errorf("RowmotionTimes(%v, %d, %d) = %d, %v, not %d", p, after, -k, got, ok, s)
				}
				after = next[after]
			}
			for _, k := range []int{1001, -1001, 1 << 32, -1 << 32, math.MaxInt, math.MinInt} {
				checkFails(t, p, "RowmotionTimes", func() (bool, bool) { x, ok := impl.RowmotionTimes(p, s, k); return x == 0, ok })
			}
		}
	}
}

// TestRowmotionByTogglesInAnyOrder tries all orders of small posets and some of large ones.
func TestRowmotionByTogglesInAnyOrder(t *testing.T) {
	for _, p := range somePosets() {
		r := relationOf(p.Less)
		orders := r.someOrders()
		if len(r) <= 5 {
			orders = r.orders()
		}
		ideals := r.ideals()
		for _, order := range orders {
			if is, ok := impl.IsOrder(p, order); !is || !ok {
				t.Errorf("IsOrder(%v, %v) = %v, %v", p, order, is, ok)
			}
			for _, s := range ideals {
				want, _ := impl.Rowmotion(p, s)
				if got, ok := impl.RowByToggles(p, s, order); !ok || got != want {
					t.Errorf("RowByToggles(%v, %d, %v) = %d, %v, not %d", p, s, order, got, ok, want)
				}
			}
		}
	}
}

// TestListsThatAreNoOrder tries all lists of up to 4 numbers in -1..n for up to 3 elements.
func TestListsThatAreNoOrder(t *testing.T) {
	for n := 1; n <= 3; n++ {
		for _, p := range everyPoset(n) {
			var try func(list []int)
			try = func(list []int) {
				checkOrder(t, p, list)
				if len(list) == 4 {
					return
				}
				for e := -1; e <= n; e++ {
					try(append(list[:len(list):len(list)], e))
				}
			}
			try(nil)
		}
	}
	for _, p := range largePosets() {
		r := relationOf(p.Less)
		for _, order := range r.someOrders() {
			for k := range order {
				changed := slices.Clone(order)
				changed[k] = order[(k+1)%len(order)]
				checkOrder(t, p, changed)
				changed[(k+1)%len(order)] = order[k]
				checkOrder(t, p, changed)
				checkOrder(t, p, order[:k])
				checkOrder(t, p, append(slices.Clone(order), order[k]))
				for _, e := range []int{-1, 10, 63, 64, 65, -64, math.MinInt, math.MaxInt, 1 << 32} {
					changed[k] = e
					checkOrder(t, p, changed)
				}
			}
		}
		for _, length := range []int{100, 101, 1000, 100000} {
			checkOrder(t, p, make([]int, length))
		}
	}
}

func checkOrder(t *testing.T, p impl.Poset, list []int) {
	t.Helper()
	want := relationOf(p.Less).isOrder(list)
	if got, ok := impl.IsOrder(p, list); !ok || got != want {
		t.Errorf("IsOrder(%v, %v) = %v, %v", p, list, got, ok)
	}
	if got, ok := impl.RowByToggles(p, 0, list); ok != want || !ok && got != 0 {
		t.Errorf("RowByToggles(%v, 0, %v) = %d, %v", p, list, got, ok)
	}
}

func TestCountOrders(t *testing.T) {
	for n := 1; n <= 5; n++ {
		for _, p := range everyPoset(n) {
			if got, ok := impl.CountOrders(p); !ok || got != len(relationOf(p.Less).orders()) {
				t.Errorf("CountOrders(%v) = %d, %v", p, got, ok)
			}
		}
	}
	factorial := 1
	// Fences are counted by the numbers of permutations that go up and down in turn.
	zigzags := []int{1, 1, 1, 2, 5, 16, 61, 272, 1385, 7936, 50521}
	for n := 1; n <= 10; n++ {
		factorial *= n
		chain := make([]int, n)
		for i := range chain {
			chain[i] = power(i) - 1
		}
		fence, _ := impl.Fence(n)
		checkCountOfOrders(t, impl.Poset{Less: make([]int, n)}, factorial)
		checkCountOfOrders(t, impl.Poset{Less: chain}, 1)
		checkCountOfOrders(t, fence, zigzags[n])
	}
	for n, want := range []int{0, 1, 2, 16, 768} {
		if p, ok := impl.Staircase(n); ok {
			checkCountOfOrders(t, p, want)
		}
	}
	for sides, want := range map[[2]int]int{{2, 2}: 2, {2, 3}: 5, {4, 2}: 14, {2, 5}: 42, {5, 2}: 42, {3, 3}: 42, {1, 10}: 1, {10, 1}: 1} {
		p, _ := impl.Rectangle(sides[0], sides[1])
		checkCountOfOrders(t, p, want)
	}
}

func checkCountOfOrders(t *testing.T, p impl.Poset, want int) {
	t.Helper()
	if got, ok := impl.CountOrders(p); !ok || got != want {
		t.Errorf("CountOrders(%v) = %d, %v, not %d", p, got, ok, want)
	}
}

func TestDoCommute(t *testing.T) {
	for _, p := range somePosets() {
		r := relationOf(p.Less)
		ideals := r.ideals()
		for d := range r {
			for e := range r {
				want := true
				for _, s := range ideals {
					if r.toggledAt(s, []int{d, e}) != r.toggledAt(s, []int{e, d}) {
						want = false
					}
				}
				if got, ok := impl.DoCommute(p, d, e); !ok || got != want {
					t.Errorf("DoCommute(%v, %d, %d) = %v, %v", p, d, e, got, ok)
				}
			}
		}
	}
}

func TestToggleCycles(t *testing.T) {
	for _, p := range somePosets() {
		r := relationOf(p.Less)
		for _, word := range someWords(len(r)) {
			want := r.cycleLengths(func(s int) int { return r.toggledAt(s, word) })
			if got, ok := impl.ToggleCycles(p, word); !ok || !slices.Equal(got, want) {
				t.Errorf("ToggleCycles(%v, %v) = %v, %v, not %v", p, word, got, ok, want)
			}
			if got, ok := impl.OrderOfWord(p, word); !ok || leastMultiple(want).Cmp(big.NewInt(int64(got))) != 0 {
				t.Errorf("OrderOfWord(%v, %v) = %d, %v of the cycles %v", p, word, got, ok, want)
			}
		}
	}
}

// TestOrdersAtTheirLimit has two words whose orders are the numbers next to 10^15 that a search came upon.
func TestOrdersAtTheirLimit(t *testing.T) {
	p := mustParse(t, "10:0<1,0<2,0<3,0<4,0<5,0<6,6<9,7<9,8<9")
	r := relationOf(p.Less)
	within := []int{
		1, 5, 0, 6, 4, 0, 8, 7, 5, 0, 9, 5, 1, 0, 8, 2, 0, 5, 9, 5, 5, 6, 4, 0, 2,
		1, 0, 0, 0, 2, 1, 0, 5, 5, 0, 3, 3, 2, 6, 3, 8, 0, 5, 3, 6, 9, 7, 8, 1, 2,
		0, 9, 3, 2, 9, 4, 9, 8, 9, 9, 5, 6, 0, 2, 8, 8, 0, 6, 6, 5, 0, 4, 0, 9, 2,
		6, 8, 0, 4, 0, 1, 0, 2, 0, 5, 1, 3, 6, 0, 8, 2, 5, 8,
	}
	beyond := []int{
		2, 5, 1, 0, 4, 6, 0, 5, 0, 1, 7, 5, 9, 0, 2, 0, 9, 8, 9, 1, 9, 5, 5, 2, 6,
		4, 9, 5, 0, 0, 0, 9, 2, 1, 5, 0, 3, 8, 3, 6, 3, 5, 2, 0, 6, 9, 1, 7, 3, 2,
		5, 0, 3, 9, 8, 9, 9, 4, 5, 8, 9, 9, 6, 2, 7, 0, 2, 8, 0, 6, 5, 6, 9, 0, 8,
		4, 0, 6, 2, 8, 8, 0, 4, 0, 9, 7, 1, 2, 8, 0, 5, 3, 1, 0, 9, 6, 0, 8, 5, 0,
	}
	for _, c := range []struct {
		word  []int
		order int64
	}{{within, 991_118_282_702_275}, {beyond, 1_003_164_666_919_800}} {
		lengths := r.cycleLengths(func(s int) int { return r.toggledAt(s, c.word) })
		if leastMultiple(lengths).Cmp(big.NewInt(c.order)) != 0 {
			t.Errorf("the cycles %v of %v have not the order %d", lengths, c.word, c.order)
		}
		if got, ok := impl.ToggleCycles(p, c.word); !ok || !slices.Equal(got, lengths) {
			t.Errorf("ToggleCycles(%v) = %v, %v, not %v", c.word, got, ok, lengths)
		}
	}
	if got, ok := impl.OrderOfWord(p, within); !ok || got != 991_118_282_702_275 {
		t.Errorf("OrderOfWord(%v) = %d, %v", within, got, ok)
	}
	if got, ok := impl.OrderOfWord(p, beyond); ok || got != 0 {
		t.Errorf("OrderOfWord(%v) = %d, %v", beyond, got, ok)
	}
}

func TestEmptyWord(t *testing.T) {
	for _, p := range somePosets() {
		ideals, _ := impl.IdealsOf(p)
		for _, word := range [][]int{nil, {}} {
			for _, s := range ideals {
				if got, ok := impl.ToggleWord(p, s, word); !ok || got != s {
					t.Errorf("ToggleWord(%v, %d, %v) = %d, %v", p, s, word, got, ok)
				}
			}
			if got, ok := impl.ToggleCycles(p, word); !ok || !slices.Equal(got, slices.Repeat([]int{1}, len(ideals))) {
				t.Errorf("ToggleCycles(%v, %v) = %v, %v", p, word, got, ok)
			}
			if got, ok := impl.OrderOfWord(p, word); !ok || got != 1 {
				t.Errorf("OrderOfWord(%v, %v) = %d, %v", p, word, got, ok)
			}
		}
	}
}

func TestToggleCyclesOfRowmotion(t *testing.T) {
	// Toggling at 3, 2, 1 and 0 is rowmotion, toggling up again the way back.
	p := mustParse(t, "4:0<1,0<2,1<3,2<3")
	for _, word := range [][]int{{3, 2, 1, 0}, {3, 1, 2, 0}, {0, 1, 2, 3}, {2, 3, 0, 1}} {
		if got, ok := impl.ToggleCycles(p, word); !ok || !slices.Equal(got, []int{4, 2}) {
			t.Errorf("ToggleCycles(%v) = %v, %v", word, got, ok)
		}
		if got, ok := impl.OrderOfWord(p, word); !ok || got != 4 {
			t.Errorf("OrderOfWord(%v) = %v, %v", word, got, ok)
		}
	}
	// The order of cycles is that of their least ideals, not that of their lengths.
	chain := mustParse(t, "3:0<1,1<2")
	if got, ok := impl.ToggleCycles(chain, []int{1, 2}); !ok || !slices.Equal(got, []int{1, 3}) {
		t.Errorf("ToggleCycles of a chain = %v, %v", got, ok)
	}
}

// TestKnownOrdersOfRowmotion takes rowmotion as a word, from the last element to the first one.
func TestKnownOrdersOfRowmotion(t *testing.T) {
	for n := 1; n <= 10; n++ {
		chain := make([]int, n)
		for i := range chain {
			chain[i] = power(i) - 1
		}
		checkOrderOfRow(t, impl.Poset{Less: chain}, n+1)
		checkOrderOfRow(t, impl.Poset{Less: make([]int, n)}, 2)
		for m := 1; m*n <= 10; m++ {
			p, _ := impl.Rectangle(n, m)
			checkOrderOfRow(t, p, n+m)
		}
	}
	for n, want := range []int{0, 2, 6, 8, 10} {
		if p, ok := impl.Staircase(n); ok {
			checkOrderOfRow(t, p, want)
		}
	}
}

func checkOrderOfRow(t *testing.T, p impl.Poset, want int) {
	t.Helper()
	var word []int
	for e := len(p.Less) - 1; e >= 0; e-- {
		word = append(word, e)
	}
	if got, ok := impl.OrderOfWord(p, word); !ok || got != want {
		t.Errorf("OrderOfWord(%v, %v) = %d, %v, not %d", p, word, got, ok, want)
	}
}

func TestAntichainRow(t *testing.T) {
	for _, p := range somePosets() {
		r := relationOf(p.Less)
		next := r.rows()
		for s := range next {
			a, want := r.topOf(s), r.topOf(next[s])
			if got, ok := impl.AntichainRow(p, a); !ok || got != want {
				t.Errorf("AntichainRow(%v, %d) = %d, %v, not %d", p, a, got, ok, want)
			}
		}
		for set := range power(len(r)) {
			if !r.isAntichain(set) {
				checkFails(t, p, "AntichainRow", func() (bool, bool) { x, ok := impl.AntichainRow(p, set); return x == 0, ok })
			}
		}
	}
	// Over the ideals 0, 1, 7 and 15, and over 3 and 5.
	p := mustParse(t, "4:0<1,0<2,1<3,2<3")
	for a, want := range map[int]int{0: 1, 1: 6, 6: 8, 8: 0, 2: 4, 4: 2} {
		if got, ok := impl.AntichainRow(p, a); !ok || got != want {
			t.Errorf("AntichainRow(%d) = %d, %v", a, got, ok)
		}
	}
}

func TestPromotion(t *testing.T) {
	for a := 1; a <= 10; a++ {
		for b := 1; a*b <= 10; b++ {
			p, _ := impl.Rectangle(a, b)
			r := relationOf(p.Less)
			for _, s := range r.ideals() {
				want := r.toggledAt(s, promotionWord(a, b, true))
				if other := r.toggledAt(s, promotionWord(a, b, false)); other != want {
					t.Errorf("promotion of %d in %d and %d: %d or %d", s, a, b, want, other)
				}
				if got, ok := impl.PromoteIdeal(a, b, s); !ok || got != want {
					t.Errorf("PromoteIdeal(%d, %d, %d) = %d, %v, not %d", a, b, s, got, ok, want)
				}
				checkPromotions(t, a, b, s)
			}
			if got, ok := impl.OrderOfWord(p, promotionWord(a, b, true)); !ok || got != a+b {
				t.Errorf("promotion of %d and %d has the order %d, %v", a, b, got, ok)
			}
		}
	}
}

func checkPromotions(t *testing.T, a, b, s int) {
	t.Helper()
	var orbit []int
	after := s
	for range a + b {
		orbit = append(orbit, after)
		after, _ = impl.PromoteIdeal(a, b, after)
	}
	if after != s {
		t.Errorf("%d promotions in %d and %d take %d to %d", a+b, a, b, s, after)
	}
	for _, k := range []int{0, 1, 2, 3, a + b - 1, a + b, a + b + 1, 999, 1000} {
		if got, ok := impl.PromoteTimes(a, b, s, k); !ok || got != orbit[k%(a+b)] {
			t.Errorf("PromoteTimes(%d, %d, %d, %d) = %d, %v, not %d", a, b, s, k, got, ok, orbit[k%(a+b)])
		}
	}
	for _, k := range []int{-1, -1000, 1001, 1 << 32, math.MaxInt, math.MinInt} {
		if got, ok := impl.PromoteTimes(a, b, s, k); ok || got != 0 {
			t.Errorf("PromoteTimes(%d, %d, %d, %d) = %d, %v", a, b, s, k, got, ok)
		}
	}
}

func TestNoPromotion(t *testing.T) {
	for _, sides := range [][2]int{
		{0, 1}, {1, 0}, {0, 0}, {-1, -1}, {-2, -3}, {1, 11}, {11, 1}, {2, 6}, {4, 3}, {1 << 32, 1 << 32}, {1 << 62, 4},
		{math.MaxInt, 1}, {1, math.MaxInt}, {math.MinInt, 1}, {1, math.MinInt}, {math.MinInt, math.MinInt},
	} {
		checkPromotionFails(t, sides[0], sides[1], 0)
	}
	for _, s := range append(notSetsOf(6), 2, 4, 6, 8, 10, 55, 62) {
		checkPromotionFails(t, 2, 3, s)
	}
}

func checkPromotionFails(t *testing.T, a, b, s int) {
	t.Helper()
	if got, ok := impl.PromoteIdeal(a, b, s); ok || got != 0 {
		t.Errorf("PromoteIdeal(%d, %d, %d) = %d, %v", a, b, s, got, ok)
	}
	for _, k := range []int{0, 1, 1000} {
		if got, ok := impl.PromoteTimes(a, b, s, k); ok || got != 0 {
			t.Errorf("PromoteTimes(%d, %d, %d, %d) = %d, %v", a, b, s, k, got, ok)
		}
	}
}

func TestOneElementToggled(t *testing.T) {
	p := impl.Poset{Less: []int{0}}
	for s, other := range []int{1, 0} {
		for name, call := range map[string]func() (int, bool){
			"ToggleAt":       func() (int, bool) { return impl.ToggleAt(p, s, 0) },
			"ToggleWord":     func() (int, bool) { return impl.ToggleWord(p, s, []int{0, 0, 0}) },
			"Rowmotion":      func() (int, bool) { return impl.Rowmotion(p, s) },
			"RowmotionBack":  func() (int, bool) { return impl.RowmotionBack(p, s) },
			"RowmotionTimes": func() (int, bool) { return impl.RowmotionTimes(p, s, -999) },
			"RowByToggles":   func() (int, bool) { return impl.RowByToggles(p, s, []int{0}) },
			"AntichainRow":   func() (int, bool) { return impl.AntichainRow(p, s) },
			"PromoteIdeal":   func() (int, bool) { return impl.PromoteIdeal(1, 1, s) },
			"PromoteTimes":   func() (int, bool) { return impl.PromoteTimes(1, 1, s, 999) },
		} {
			if got, ok := call(); !ok || got != other {
				t.Errorf("%s of %d = %d, %v", name, s, got, ok)
			}
		}
		if got, ok := impl.CanToggle(p, s); !ok || got != 1 {
			t.Errorf("CanToggle(%d) = %d, %v", s, got, ok)
		}
	}
	if got, ok := impl.DoCommute(p, 0, 0); !ok || !got {
		t.Errorf("DoCommute = %v, %v", got, ok)
	}
	if got, ok := impl.ToggleCycles(p, []int{0}); !ok || !slices.Equal(got, []int{2}) {
		t.Errorf("ToggleCycles = %v, %v", got, ok)
	}
	if got, ok := impl.OrderOfWord(p, []int{0}); !ok || got != 2 {
		t.Errorf("OrderOfWord = %v, %v", got, ok)
	}
	checkCountOfOrders(t, p, 1)
}

func TestNoPosetsToToggle(t *testing.T) {
	for _, p := range badPosets() {
		for _, s := range []int{0, 1, 3, -1, math.MaxInt} {
			checkIdealFails(t, p, s)
			checkFails(t, p, "AntichainRow", func() (bool, bool) { x, ok := impl.AntichainRow(p, s); return x == 0, ok })
		}
		for _, list := range [][]int{nil, {0}, {0, 1}} {
			checkFails(t, p, "IsOrder", func() (bool, bool) { x, ok := impl.IsOrder(p, list); return !x, ok })
			checkWordFails(t, p, 0, list)
		}
		checkFails(t, p, "CountOrders", func() (bool, bool) { x, ok := impl.CountOrders(p); return x == 0, ok })
		checkFails(t, p, "DoCommute", func() (bool, bool) { x, ok := impl.DoCommute(p, 0, 0); return !x, ok })
	}
}

func TestNoIdealsToToggle(t *testing.T) {
	for _, p := range append(everyPoset(4), largePosets()...) {
		r := relationOf(p.Less)
		for s := range power(len(r)) {
			if !r.isIdeal(s) {
				checkIdealFails(t, p, s)
			}
		}
		for _, s := range notSetsOf(len(r)) {
			checkIdealFails(t, p, s)
			checkFails(t, p, "AntichainRow", func() (bool, bool) { x, ok := impl.AntichainRow(p, s); return x == 0, ok })
		}
	}
}

// checkIdealFails gives fitting other arguments, so that it is the poset or the ideal that makes a call fail.
func checkIdealFails(t *testing.T, p impl.Poset, s int) {
	t.Helper()
	var order []int
	for e := range p.Less {
		order = append(order, e)
	}
	for name, call := range map[string]func() (int, bool){
		"ToggleAt":         func() (int, bool) { return impl.ToggleAt(p, s, 0) },
		"ToggleWord":       func() (int, bool) { return impl.ToggleWord(p, s, []int{0}) },
		"ToggleWord empty": func() (int, bool) { return impl.ToggleWord(p, s, nil) },
		"CanToggle":        func() (int, bool) { return impl.CanToggle(p, s) },
		"Rowmotion":        func() (int, bool) { return impl.Rowmotion(p, s) },
		"RowmotionBack":    func() (int, bool) { return impl.RowmotionBack(p, s) },
		"RowmotionTimes":   func() (int, bool) { return impl.RowmotionTimes(p, s, 0) },
		"RowmotionTimes 2": func() (int, bool) { return impl.RowmotionTimes(p, s, 2) },
		"RowByToggles":     func() (int, bool) { return impl.RowByToggles(p, s, order) },
	} {
		if got, ok := call(); ok || got != 0 {
			t.Errorf("%s of %v and %d = %d, %v", name, p, s, got, ok)
		}
	}
}

func TestElementsThatAreNotThere(t *testing.T) {
	for _, p := range append(everyPoset(3), largePosets()...) {
		n := len(p.Less)
		for _, e := range []int{-1, n, n + 1, 63, 64, 65, -64, 1 << 32, math.MaxInt, math.MinInt} {
			checkFails(t, p, "ToggleAt", func() (bool, bool) { x, ok := impl.ToggleAt(p, 0, e); return x == 0, ok })
			checkFails(t, p, "DoCommute", func() (bool, bool) { x, ok := impl.DoCommute(p, 0, e); return !x, ok })
			checkFails(t, p, "DoCommute", func() (bool, bool) { x, ok := impl.DoCommute(p, e, 0); return !x, ok })
			checkFails(t, p, "DoCommute", func() (bool, bool) { x, ok := impl.DoCommute(p, e, e); return !x, ok })
			for _, word := range [][]int{{e}, {0, e}, {e, 0}, {0, n - 1, e, 0}} {
				checkWordFails(t, p, 0, word)
			}
		}
	}
}

func checkWordFails(t *testing.T, p impl.Poset, s int, word []int) {
	t.Helper()
	checkFails(t, p, "ToggleWord", func() (bool, bool) { x, ok := impl.ToggleWord(p, s, word); return x == 0, ok })
	checkFails(t, p, "ToggleCycles", func() (bool, bool) { x, ok := impl.ToggleCycles(p, word); return x == nil, ok })
	checkFails(t, p, "OrderOfWord", func() (bool, bool) { x, ok := impl.OrderOfWord(p, word); return x == 0, ok })
}
