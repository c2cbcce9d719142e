package tests

import (
	"math"
	"math/big"
	"slices"
	"testing"

	"loop.example/g01138/impl"
)

func TestChapter4Example(t *testing.T) {
	p := mustParse(t, "4:0<1,0<2,1<3,2<3")
	first, second := []int{0, 1, 2, 3}, []int{0, 2, 1, 3}
	if got, ok := impl.AllLinear(p); !ok || !sameRows(got, [][]int{first, second}) {
		t.Errorf("AllLinear = %v, %v", got, ok)
	}
	for _, times := range []int{-1, 1} {
		checkList(t, "PromoteLinear", second)(impl.PromoteLinear(p, first, times))
		checkList(t, "PromoteLinear", first)(impl.PromoteLinear(p, second, times))
	}
	for i, want := range [][]int{first, second, first} {
		checkList(t, "ToggleLinear", want)(impl.ToggleLinear(p, first, i))
	}
	checkList(t, "SlideOf", []int{0, 1, 3})(impl.SlideOf(p, first))
	checkList(t, "SlideOf", []int{0, 2, 3})(impl.SlideOf(p, second))
}

func TestLimitsOfChapter4(t *testing.T) {
	if impl.MaxOrders != 500 || impl.MaxPromotions != 100 {
		t.Errorf("MaxOrders = %d, MaxPromotions = %d", impl.MaxOrders, impl.MaxPromotions)
	}
}

// checkList returns a function that takes the results of a call that has to succeed.
func checkList(t *testing.T, name string, want []int) func(got []int, ok bool) {
	return func(got []int, ok bool) {
		t.Helper()
		if !ok || !slices.Equal(got, want) {
			t.Errorf("%s = %v, %v, not %v", name, got, ok, want)
		}
	}
}

func checkNumber(t *testing.T, name string, want int) func(got int, ok bool) {
	return func(got int, ok bool) {
		t.Helper()
		if !ok || got != want {
			t.Errorf("%s = %d, %v, not %d", name, got, ok, want)
		}
	}
}

func checkNoNumber(t *testing.T, name string) func(got int, ok bool) {
	return func(got int, ok bool) {
		t.Helper()
		if ok || got != 0 {
			t.Errorf("%s = %d, %v", name, got, ok)
		}
	}
}

func checkNoList(t *testing.T, name string) func(got []int, ok bool) {
	return func(got []int, ok bool) {
		t.Helper()
		if ok || len(got) != 0 {
			t.Errorf("%s = %v, %v", name, got, ok)
		}
	}
}

func checkNoRows(t *testing.T, name string) func(got [][]int, ok bool) {
	return func(got [][]int, ok bool) {
		t.Helper()
		if ok || len(got) != 0 {
			t.Errorf("%s = %v, %v", name, got, ok)
		}
	}
}

func TestLinearExtensionsAreRanked(t *testing.T) {
	for _, p := range linearPosets() {
		want := relationOf(p.Less).linears()
		checkNumber(t, "CountLinear", len(want))(impl.CountLinear(p))
		got, ok := impl.AllLinear(p)
		if len(want) > 500 {
			checkNoRows(t, "AllLinear")(got, ok)
		} else if !ok || !sameRows(got, want) {
			t.Errorf("AllLinear(%v) = %v, %v, not %v", p, got, ok, want)
		}
		for rank, w := range want {
			checkList(t, "LinearWith", w)(impl.LinearWith(p, rank))
			checkNumber(t, "RankLinear", rank)(impl.RankLinear(p, w))
			if is, ok := impl.IsLinear(p, w); !is || !ok {
				t.Errorf("IsLinear(%v, %v) = %v, %v", p, w, is, ok)
			}
		}
		checkNoRanks(t, p, len(want))
	}
}

// checkNoRanks asks for ranks behind the last one and before the first one.
func checkNoRanks(t *testing.T, p impl.Poset, count int) {
	t.Helper()
	for _, rank := range []int{-1, -2, -count, count, count + 1, 2 * count, 3628800, 1 << 32, -1 << 32, math.MaxInt, math.MinInt} {
		checkNoList(t, "LinearWith")(impl.LinearWith(p, rank))
	}
}

func TestKnownCountsOfLinearExtensions(t *testing.T) {
	factorial := 1
	zigzags := []int{1, 1, 1, 2, 5, 16, 61, 272, 1385, 7936, 50521}
	for n := 1; n <= 10; n++ {
		factorial *= n
		fence, _ := impl.Fence(n)
		checkNumber(t, "CountLinear of a chain", 1)(impl.CountLinear(chainOf(n)))
		checkNumber(t, "CountLinear without relations", factorial)(impl.CountLinear(impl.Poset{Less: make([]int, n)}))
		checkNumber(t, "CountLinear of a fence", zigzags[n])(impl.CountLinear(fence))
	}
	for n, want := range []int{0, 1, 2, 16, 768} {
		if p, ok := impl.Staircase(n); ok {
			checkNumber(t, "CountLinear of stairs", want)(impl.CountLinear(p))
		}
	}
	for sides, want := range map[[2]int]int{{2, 2}: 2, {2, 3}: 5, {4, 2}: 14, {2, 5}: 42, {5, 2}: 42, {3, 3}: 42, {1, 10}: 1, {10, 1}: 1} {
		p, _ := impl.Rectangle(sides[0], sides[1])
		checkNumber(t, "CountLinear of a rectangle", want)(impl.CountLinear(p))
	}
}

// TestRanksWithoutRelations has all arrangements of 10 elements, whose ranks have the factorials as places.
func TestRanksWithoutRelations(t *testing.T) {
	p := impl.Poset{Less: make([]int, 10)}
	for _, c := range []struct {
		rank int
		w    []int
	}{
		{0, []int{0, 1, 2, 3, 4, 5, 6, 7, 8, 9}},
		{1, []int{0, 1, 2, 3, 4, 5, 6, 7, 9, 8}},
		{2, []int{0, 1, 2, 3, 4, 5, 6, 8, 7, 9}},
		{362879, []int{0, 9, 8, 7, 6, 5, 4, 3, 2, 1}},
		{362880, []int{1, 0, 2, 3, 4, 5, 6, 7, 8, 9}},
		{2*362880 + 7*40320 + 0*5040 + 3*720 + 120 + 4*24 + 2*6 + 2*2 + 1, []int{2, 8, 0, 5, 3, 9, 6, 7, 4, 1}},
		{3628798, []int{9, 8, 7, 6, 5, 4, 3, 2, 0, 1}},
		{3628799, []int{9, 8, 7, 6, 5, 4, 3, 2, 1, 0}},
	} {
		checkList(t, "LinearWith", c.w)(impl.LinearWith(p, c.rank))
		checkNumber(t, "RankLinear", c.rank)(impl.RankLinear(p, c.w))
	}
	checkNoRanks(t, p, 3628800)
}

// TestRanksOfManyLinearExtensions looks at neighbours in the order of posets that have too many to list them.
func TestRanksOfManyLinearExtensions(t *testing.T) {
	fence, _ := impl.Fence(10)
	for _, p := range append(largePosets(), fence) {
		r := relationOf(p.Less)
		count, ok := impl.CountLinear(p)
		if !ok || count < 1 {
			t.Errorf("CountLinear(%v) = %d, %v", p, count, ok)
		}
		step := count/300 + 1
		for rank := 0; rank < count; rank += step {
			w, ok := impl.LinearWith(p, rank)
			if !ok || !r.isOrder(w) {
				t.Errorf("LinearWith(%v, %d) = %v, %v", p, rank, w, ok)
			}
			checkNumber(t, "RankLinear", rank)(impl.RankLinear(p, w))
			if rank > 0 {
				before, ok := impl.LinearWith(p, rank-1)
				if !ok || slices.Compare(before, w) >= 0 {
					t.Errorf("LinearWith(%v) has %v with the rank %d before %v, %v", p, before, rank-1, w, ok)
				}
			}
		}
		if last, ok := impl.LinearWith(p, count-1); !ok || !slices.Equal(last, r.lastLinear()) {
			t.Errorf("LinearWith(%v, %d) = %v, %v", p, count-1, last, ok)
		}
		checkNoRanks(t, p, count)
	}
}

// TestMaxOrders has posets of just as many linear extensions as can be listed, of one less, and of more.
func TestMaxOrders(t *testing.T) {
	const many = -1
	for text, count := range map[string]int{
		"9:0<2,0<4,1<4,1<5,1<7,2<6,2<7,3<6,3<7,4<8,5<6,6<8":      499,
		"10:0<3,0<7,1<4,2<5,2<7,3<5,4<6,4<7,5<8,7<8,8<9":         500,
		"10:0<2,0<5,1<2,1<4,2<6,3<7,3<8,4<7,4<9,5<6,6<7,6<8,8<9": 501,
		"10:0<2,1<2,1<5,2<6,3<4,3<5,4<7,4<8,5<8,5<9,6<7,7<9":     502,
		"6:-":  720,
		"10:-": many,
		"10:0<4,0<5,1<5,1<6,2<6,2<7,3<7,4<8,5<8,5<9,6<9":                 many,
		"10:0<5,0<6,0<7,0<8,0<9,1<5,1<6,1<7,1<8,1<9,2<5,2<6,2<7,2<8,2<9": many,
	} {
		p := mustParse(t, text)
		if count == many {
			checkTooMany(t, p)
			continue
		}
		r := relationOf(p.Less)
		all := r.linears()
		if len(all) != count {
			t.Errorf("%s has %d linear extensions", text, len(all))
		}
		checkNumber(t, "CountLinear", count)(impl.CountLinear(p))
		checkList(t, "LinearWith", all[count-1])(impl.LinearWith(p, count-1))
		checkNumber(t, "RankLinear", count-1)(impl.RankLinear(p, all[count-1]))
		if count > 500 {
			checkTooMany(t, p)
			continue
		}
		if got, ok := impl.AllLinear(p); !ok || !sameRows(got, all) {
			t.Errorf("AllLinear(%s) = %v, %v", text, got, ok)
		}
		checkNumber(t, "CountReturned", count)(impl.CountReturned(p, 0))
		checkWholeRuns(t, p, r)
	}
}

// checkTooMany takes a poset of more than MaxOrders linear extensions, each of which can be toggled still.
func checkTooMany(t *testing.T, p impl.Poset) {
	t.Helper()
	checkNoRows(t, "AllLinear")(impl.AllLinear(p))
	checkNoNumber(t, "PromotionOrder")(impl.PromotionOrder(p))
	checkNoNumber(t, "SelfEvacuated")(impl.SelfEvacuated(p))
	for _, times := range []int{0, 1, 2, 10, 100} {
		checkNoNumber(t, "CountReturned")(impl.CountReturned(p, times))
	}
	r := relationOf(p.Less)
	count, ok := impl.CountLinear(p)
	if !ok || count <= 500 {
		t.Errorf("CountLinear(%v) = %d, %v", p, count, ok)
	}
	for _, rank := range []int{0, 1, count / 2, count - 1} {
		w, _ := impl.LinearWith(p, rank)
		checkTurned(t, p, r, w)
	}
}

// lastLinear has always the greatest element that can come next.
func (r relation) lastLinear() []int {
	var w []int
	for len(w) < len(r) {
		for e := len(r) - 1; e >= 0; e-- {
			if !slices.Contains(w, e) && r.isBehindLesser(w, e) {
				w = append(w, e)
				break
			}
		}
	}
	return w
}

func TestTogglesOfLinearExtensions(t *testing.T) {
	for _, p := range linearPosets() {
		r := relationOf(p.Less)
		for _, w := range r.linears() {
			for i := range len(w) - 1 {
				want := r.listToggled(w, i)
				got, ok := impl.ToggleLinear(p, w, i)
				if !ok || !slices.Equal(got, want) {
					t.Errorf("ToggleLinear(%v, %v, %d) = %v, %v, not %v", p, w, i, got, ok, want)
				}
				checkList(t, "ToggleLinear twice", w)(impl.ToggleLinear(p, got, i))
			}
		}
	}
}

func TestTogglesAtTheEnds(t *testing.T) {
	// Only the first two and the last two elements can be exchanged.
	p := mustParse(t, "6:0<2,1<2,2<3,3<4,3<5")
	w := []int{0, 1, 2, 3, 4, 5}
	for i, want := range [][]int{{1, 0, 2, 3, 4, 5}, w, w, w, {0, 1, 2, 3, 5, 4}} {
		checkList(t, "ToggleLinear", want)(impl.ToggleLinear(p, w, i))
	}
	pair := mustParse(t, "2:0<1")
	checkList(t, "ToggleLinear", []int{0, 1})(impl.ToggleLinear(pair, []int{0, 1}, 0))
	loose := mustParse(t, "2:-")
	checkList(t, "ToggleLinear", []int{1, 0})(impl.ToggleLinear(loose, []int{0, 1}, 0))
	checkList(t, "ToggleLinear", []int{0, 1})(impl.ToggleLinear(loose, []int{1, 0}, 0))
	for n := 1; n <= 10; n++ {
		chain := chainOf(n)
		up := promotionPlaces(n + 1)
		for i := range n - 1 {
			checkList(t, "ToggleLinear of a chain", up)(impl.ToggleLinear(chain, up, i))
		}
		for _, i := range notPlaces(n) {
			checkNoList(t, "ToggleLinear of a chain")(impl.ToggleLinear(chain, up, i))
			checkNoList(t, "ToggleLinear without relations")(impl.ToggleLinear(impl.Poset{Less: make([]int, n)}, up, i))
		}
	}
}

func TestPromotionOfLinearExtensions(t *testing.T) {
	for _, p := range linearPosets() {
		r := relationOf(p.Less)
		for _, w := range r.linears() {
			want := r.listToggledAt(w, promotionPlaces(len(w)))
			if other := r.slid(w); !slices.Equal(want, other) {
				t.Errorf("promotion of %v in %v: %v or %v", w, p, want, other)
			}
			checkList(t, "PromoteLinear", want)(impl.PromoteLinear(p, w, 1))
			checkList(t, "PromoteLinear backwards", w)(impl.PromoteLinear(p, want, -1))
			checkList(t, "PromoteLinear 0 times", w)(impl.PromoteLinear(p, w, 0))
			checkList(t, "SlideOf", r.slideOf(w))(impl.SlideOf(p, w))
		}
	}
}

func TestPromotionManyTimes(t *testing.T) {
	list := append(everyPoset(4), impl.Poset{Less: []int{0}}, pentagon(), mustParse(t, "5:0<3,1<4,2<4,3<4"), mustParse(t, "6:0<2,1<2,1<4,3<4,3<5"))
	for _, p := range append(list, mustParse(t, "7:0<1,1<6,2<3,4<5"), mustParse(t, "10:0<1,1<2,2<3,3<4,4<5,5<6,6<7,7<8")) {
		r := relationOf(p.Less)
		for _, w := range [][]int{r.linears()[0], r.lastLinear()} {
			after := w
			for times := range 101 {
				checkList(t, "PromoteLinear", after)(impl.PromoteLinear(p, w, times))
				checkList(t, "PromoteLinear backwards", w)(impl.PromoteLinear(p, after, -times))
				after = r.slid(after)
			}
			for _, times := range []int{101, -101, 102, -102, 1000, 1 << 32, -1 << 32, math.MaxInt, math.MinInt, math.MinInt + 1} {
				checkNoList(t, "PromoteLinear")(impl.PromoteLinear(p, w, times))
			}
		}
	}
	// Seven promotions lead back, so that 99, 100 and 101 of them, or of those backwards, all differ.
	loose, w := impl.Poset{Less: make([]int, 7)}, []int{0, 1, 2, 3, 4, 5, 6}
	for times, first := range map[int]int{0: 0, 1: 1, -1: 6, 6: 6, 7: 0, 99: 1, 100: 2, -99: 6, -100: 5} {
		checkList(t, "PromoteLinear without relations", slices.Concat(w[first:], w[:first]))(impl.PromoteLinear(loose, w, times))
	}
}

func TestEvacuation(t *testing.T) {
	for _, p := range linearPosets() {
		r := relationOf(p.Less)
		for _, w := range r.linears() {
			checkTurned(t, p, r, w)
		}
	}
	loose, up := impl.Poset{Less: make([]int, 10)}, promotionPlaces(11)
	down := slices.Clone(up)
	slices.Reverse(down)
	checkList(t, "EvacuateLinear without relations", down)(impl.EvacuateLinear(loose, up))
	checkList(t, "CoevacuateLinear without relations", down)(impl.CoevacuateLinear(loose, up))
	// One goes over 1 0 2 3 and 0 1 2 3, the other one over 0 2 1 3 and 0 1 2 3.
	p, w := mustParse(t, "4:0<2,0<3,1<3"), []int{0, 1, 3, 2}
	checkList(t, "EvacuateLinear", []int{0, 2, 1, 3})(impl.EvacuateLinear(p, w))
	checkList(t, "CoevacuateLinear", w)(impl.CoevacuateLinear(p, w))
}

// checkTurned compares both evacuations with the document's words, and with what it says of them and of promotions.
func checkTurned(t *testing.T, p impl.Poset, r relation, w []int) {
	t.Helper()
	n := len(w)
	evacuated, ok := impl.EvacuateLinear(p, w)
	checkList(t, "EvacuateLinear", r.listToggledAt(w, evacuationPlaces(n)))(evacuated, ok)
	coevacuated, ok := impl.CoevacuateLinear(p, w)
	checkList(t, "CoevacuateLinear", r.listToggledAt(w, coevacuationPlaces(n)))(coevacuated, ok)
	checkList(t, "EvacuateLinear twice", w)(impl.EvacuateLinear(p, evacuated))
	checkList(t, "CoevacuateLinear twice", w)(impl.CoevacuateLinear(p, coevacuated))
	// Evacuation, promotion and evacuation again are promotion backwards.
	promoted, _ := impl.PromoteLinear(p, evacuated, 1)
	again, _ := impl.EvacuateLinear(p, promoted)
	checkList(t, "PromoteLinear backwards", again)(impl.PromoteLinear(p, w, -1))
	// As many promotions as there are elements are evacuation and then coevacuation.
	both, _ := impl.CoevacuateLinear(p, evacuated)
	checkList(t, "PromoteLinear n times", both)(impl.PromoteLinear(p, w, n))
}

// TestSidesOfRectanglesAndStairs has what n promotions and evacuation do there: they turn rectangles by a half, and turn stairs over.
func TestSidesOfRectanglesAndStairs(t *testing.T) {
	for a := 1; a <= 10; a++ {
		for b := 1; a*b <= 10; b++ {
			p, _ := impl.Rectangle(a, b)
			for _, w := range relationOf(p.Less).linears() {
				checkList(t, "PromoteLinear of a rectangle", w)(impl.PromoteLinear(p, w, a*b))
				turned, _ := impl.DualLinear(p, w)
				checkList(t, "EvacuateLinear of a rectangle", turned)(impl.EvacuateLinear(p, w))
			}
		}
	}
	for n := 1; n <= 4; n++ {
		p, _ := impl.Staircase(n)
		over := overTurned(n)
		for _, w := range relationOf(p.Less).linears() {
			var want []int
			for _, e := range w {
				want = append(want, over[e])
			}
			checkList(t, "PromoteLinear of stairs", want)(impl.PromoteLinear(p, w, len(w)))
		}
	}
}

// overTurned has for each element of the stairs of n the one that is there when left and right are exchanged.
func overTurned(n int) []int {
	var over []int
	first := 0
	for width := 1; width <= n; width++ {
		for i := 0; i+width <= n; i++ {
			over = append(over, first+n-width-i)
		}
		first += n - width + 1
	}
	return over
}

func TestSlides(t *testing.T) {
	for n := 1; n <= 10; n++ {
		up := promotionPlaces(n + 1)
		checkList(t, "SlideOf a chain", up)(impl.SlideOf(chainOf(n), up))
		checkList(t, "SlideOf no relations", []int{0})(impl.SlideOf(impl.Poset{Less: make([]int, n)}, up))
	}
	for text, chains := range map[string][][2][]int{
		// The way over 1 and the way over 2 to 4.
		"5:0<1,0<2,1<4,2<3,3<4": {
			{{0, 1, 2, 3, 4}, {0, 1, 4}}, {{0, 2, 1, 3, 4}, {0, 2, 3, 4}}, {{0, 2, 3, 1, 4}, {0, 2, 3, 4}},
		},
		// The index decides, not the number, and what is greater is not always covered.
		"4:0<2,0<3,1<3":     {{{0, 1, 2, 3}, {0, 2}}, {{0, 1, 3, 2}, {0, 3}}, {{0, 2, 1, 3}, {0, 2}}, {{1, 0, 2, 3}, {1, 3}}, {{1, 0, 3, 2}, {1, 3}}},
		"5:0<3,1<2,2<3,3<4": {{{0, 1, 2, 3, 4}, {0, 3, 4}}, {{1, 0, 2, 3, 4}, {1, 2, 3, 4}}},
	} {
		p := mustParse(t, text)
		for _, c := range chains {
			checkList(t, "SlideOf", c[1])(impl.SlideOf(p, c[0]))
		}
	}
}

func TestPromotionOrbitsOfLinearExtensions(t *testing.T) {
	for _, p := range linearPosets() {
		orbits := relationOf(p.Less).linearOrbits()
		count := 0
		for _, orbit := range orbits {
			count += len(orbit)
			for k, w := range orbit {
				// Not all turns of long orbits, as each one is as long again.
				if k > 3 && k < len(orbit)-2 {
					continue
				}
				got, ok := impl.PromotionOrbit(p, w)
				if want := slices.Concat(orbit[k:], orbit[:k]); !ok || !sameRows(got, want) {
					t.Errorf("PromotionOrbit(%v, %v) = %v, %v, not %v", p, w, got, ok, want)
				}
			}
		}
		checkNumber(t, "CountLinear", count)(impl.CountLinear(p))
	}
	for n := 1; n <= 10; n++ {
		up := promotionPlaces(n + 1)
		if got, ok := impl.PromotionOrbit(chainOf(n), up); !ok || !sameRows(got, [][]int{up}) {
			t.Errorf("PromotionOrbit of a chain = %v, %v", got, ok)
		}
		var turns [][]int
		for k := range n {
			turns = append(turns, slices.Concat(up[k:], up[:k]))
		}
		if got, ok := impl.PromotionOrbit(impl.Poset{Less: make([]int, n)}, up); !ok || !sameRows(got, turns) {
			t.Errorf("PromotionOrbit without relations = %v, %v", got, ok)
		}
	}
}

// TestPromotionOrbitsAtMaxOrders has orbits of just as many linear extensions as can be told, in posets of more.
func TestPromotionOrbitsAtMaxOrders(t *testing.T) {
	for _, c := range []struct {
		text   string
		w      []int
		length int
	}{
		{"10:0<2,0<6,0<8,1<2,1<3,1<5,1<9,3<8,4<5,4<9,5<7,6<9,7<8", []int{4, 0, 1, 5, 7, 3, 6, 9, 8, 2}, 499},
		{"10:0<4,0<7,1<6,2<8,4<6,5<7,6<8,7<9", []int{5, 0, 7, 2, 9, 3, 1, 4, 6, 8}, 500},
		{"9:0<3,0<4,0<7,1<6,1<7,1<8,2<3,2<4,2<5,3<8,4<6,4<8,5<6,5<7,5<8", []int{0, 2, 3, 5, 4, 1, 6, 8, 7}, 501},
		{"10:0<6,0<8,1<5,1<9,2<5,3<4,4<5,4<6,5<7", []int{1, 2, 0, 3, 4, 6, 9, 5, 7, 8}, 502},
		{"10:0<4,0<5,1<2,1<3,2<4,2<6,2<9,3<4,3<7,5<6,5<7,6<8", []int{1, 0, 2, 3, 5, 6, 9, 8, 7, 4}, 505},
	} {
		p := mustParse(t, c.text)
		want := linearOrbit(c.w, relationOf(p.Less).slid)
		if len(want) != c.length {
			t.Errorf("the orbit of %v in %s has %d", c.w, c.text, len(want))
		}
		got, ok := impl.PromotionOrbit(p, c.w)
		if c.length > 500 {
			checkNoRows(t, "PromotionOrbit")(got, ok)
		} else if !ok || !sameRows(got, want) {
			t.Errorf("PromotionOrbit(%s, %v) = %v, %v", c.text, c.w, got, ok)
		}
	}
}

// TestWholeRuns counts over all linear extensions what promotions and evacuation lead to themselves.
func TestWholeRuns(t *testing.T) {
	for _, p := range linearPosets() {
		r := relationOf(p.Less)
		if len(r.linears()) <= 500 {
			checkWholeRuns(t, p, r)
		} else {
			checkTooMany(t, p)
		}
	}
}

func checkWholeRuns(t *testing.T, p impl.Poset, r relation) {
	t.Helper()
	lengths := linearLengths(r.linearOrbits())
	order := leastMultiple(lengths)
	if got, ok := impl.PromotionOrder(p); order.Cmp(big.NewInt(1000000)) > 0 {
		checkNoNumber(t, "PromotionOrder")(got, ok)
	} else {
		checkNumber(t, "PromotionOrder", int(order.Int64()))(got, ok)
	}
	for _, times := range []int{0, 1, 2, 3, 4, 5, 6, 7, 8, 9, 10, 12, 14, 18, 20, 60, 98, 99, 100} {
		returned := 0
		for _, length := range lengths {
			if times%length == 0 {
				returned += length
			}
		}
		checkNumber(t, "CountReturned", returned)(impl.CountReturned(p, times))
	}
	for _, times := range []int{-1, -2, -100, 101, 102, 120, 1000, 1 << 32, -1 << 32, math.MaxInt, math.MinInt} {
		checkNoNumber(t, "CountReturned")(impl.CountReturned(p, times))
	}
	left := leftBy(r.linears(), func(w []int) []int { return r.listToggledAt(w, evacuationPlaces(len(w))) })
	checkNumber(t, "SelfEvacuated", left)(impl.SelfEvacuated(p))
}

func TestKnownPromotionOrders(t *testing.T) {
	for n := 1; n <= 10; n++ {
		checkNumber(t, "PromotionOrder of a chain", 1)(impl.PromotionOrder(chainOf(n)))
		checkNumber(t, "SelfEvacuated of a chain", 1)(impl.SelfEvacuated(chainOf(n)))
		for times := range 101 {
			checkNumber(t, "CountReturned of a chain", 1)(impl.CountReturned(chainOf(n), times))
		}
	}
	// Without relations, promotion takes the first element to the end, and evacuation turns round.
	for n := 2; n <= 5; n++ {
		p := impl.Poset{Less: make([]int, n)}
		checkNumber(t, "PromotionOrder without relations", n)(impl.PromotionOrder(p))
		checkNumber(t, "SelfEvacuated without relations", 0)(impl.SelfEvacuated(p))
		checkNumber(t, "CountReturned without relations", 0)(impl.CountReturned(p, n-1))
	}
	for n, want := range []int{0, 1, 2, 12} {
		if p, ok := impl.Staircase(n); ok {
			checkNumber(t, "PromotionOrder of stairs", want)(impl.PromotionOrder(p))
		}
	}
	for sides, want := range map[[2]int][2]int{{2, 2}: {2, 2}, {2, 3}: {6, 3}, {3, 2}: {6, 3}, {2, 4}: {8, 6}, {2, 5}: {10, 10}, {1, 7}: {1, 1}} {
		p, _ := impl.Rectangle(sides[0], sides[1])
		checkNumber(t, "PromotionOrder of a rectangle", want[0])(impl.PromotionOrder(p))
		checkNumber(t, "SelfEvacuated of a rectangle", want[1])(impl.SelfEvacuated(p))
	}
	// Orbits of two and of three.
	p, _ := impl.Rectangle(2, 3)
	for times, want := range map[int]int{0: 5, 1: 0, 2: 2, 3: 3, 4: 2, 5: 0, 6: 5, 96: 5, 98: 2, 99: 3, 100: 2} {
		checkNumber(t, "CountReturned of a rectangle", want)(impl.CountReturned(p, times))
	}
}

// TestPromotionOrdersAtTheirLimit has, among others, the two orders next to 1000000 and the largest one of all posets with at most 500 linear extensions.
func TestPromotionOrdersAtTheirLimit(t *testing.T) {
	for text, order := range map[string]int64{
		"8:0<6,1<2,1<5,2<4,2<7,3<4,3<6,6<7":                     2_818_200,
		"9:0<5,0<6,0<7,1<3,1<5,2<4,2<6,3<6,3<7,3<8,4<5,4<7,5<8": 968_880,
		"10:0<2,1<4,1<5,2<3,2<9,3<5,4<7,4<9,5<7,6<7,7<8":        999_350,
		"10:0<3,0<5,1<4,1<5,2<5,3<8,3<9,4<8,5<6,6<7,7<8,7<9":    999_396,
		"10:0<6,1<4,1<6,2<3,2<6,3<4,4<5,5<9,6<7,6<8,8<9":        1_000_008,
		"10:0<1,0<3,1<2,2<4,2<6,3<4,3<5,3<6,4<9,6<8,7<8,8<9":    1_000_776,
		"10:0<2,0<4,1<3,1<4,2<5,3<6,4<9,5<7,6<8,7<8,7<9":        25_867_103_446_800,
	} {
		p := mustParse(t, text)
		if want := leastMultiple(linearLengths(relationOf(p.Less).linearOrbits())); want.Cmp(big.NewInt(order)) != 0 {
			t.Errorf("promotion of %s has the order %v", text, want)
		}
		if got, ok := impl.PromotionOrder(p); order > 1_000_000 {
			checkNoNumber(t, "PromotionOrder")(got, ok)
		} else {
			checkNumber(t, "PromotionOrder", int(order))(got, ok)
		}
	}
}

func TestDualsOfLinearExtensions(t *testing.T) {
	for _, p := range linearPosets() {
		r := relationOf(p.Less)
		q, _ := impl.DualOf(p)
		for _, w := range r.linears() {
			n := len(w)
			want := make([]int, 0, n)
			for k := n - 1; k >= 0; k-- {
				want = append(want, n-1-w[k])
			}
			dual, ok := impl.DualLinear(p, w)
			checkList(t, "DualLinear", want)(dual, ok)
			if is, ok := impl.IsLinear(q, dual); !is || !ok {
				t.Errorf("IsLinear(%v, %v) = %v, %v", q, dual, is, ok)
			}
			checkList(t, "DualLinear twice", w)(impl.DualLinear(q, dual))
			// In the dual, toggles are at the other end, so that promotion goes back and the evacuations change places.
			back, _ := impl.PromoteLinear(p, w, -1)
			turned, _ := impl.DualLinear(p, back)
			checkList(t, "PromoteLinear in the dual", turned)(impl.PromoteLinear(q, dual, 1))
			coevacuated, _ := impl.CoevacuateLinear(p, w)
			turned, _ = impl.DualLinear(p, coevacuated)
			checkList(t, "EvacuateLinear in the dual", turned)(impl.EvacuateLinear(q, dual))
		}
	}
	checkList(t, "DualLinear", []int{1, 2, 0})(impl.DualLinear(mustParse(t, "3:0<1"), []int{2, 0, 1}))
}

// TestListsThatAreNoLinearExtension tries all lists of up to 4 numbers in -1..n for up to 3 elements.
func TestListsThatAreNoLinearExtension(t *testing.T) {
	for n := 1; n <= 3; n++ {
		for _, p := range everyPoset(n) {
			var try func(list []int)
			try = func(list []int) {
				checkLinear(t, p, list)
				if len(list) == 4 {
					return
				}
				for e := -1; e <= n; e++ {
					try(append(list[:len(list):len(list)], e))
				}
			}
			try(nil)
		}
	}
	for _, p := range largePosets() {
		for _, w := range relationOf(p.Less).someOrders() {
			checkLinear(t, p, w)
			for k := range w {
				checkLinear(t, p, w[:k])
				checkLinear(t, p, append(slices.Clone(w), w[k]))
				for _, e := range []int{w[(k+1)%len(w)], -1, 9, 10, 63, 64, 65, -64, math.MinInt, math.MaxInt, 1 << 32} {
					changed := slices.Clone(w)
					changed[k] = e
					checkLinear(t, p, changed)
				}
				for j := range k {
					changed := slices.Clone(w)
					changed[j], changed[k] = w[k], w[j]
					checkLinear(t, p, changed)
				}
			}
		}
		for _, length := range []int{0, 100, 101, 500, 501, 100000} {
			checkLinear(t, p, make([]int, length))
		}
	}
}

// checkLinear gives any list: if it is none, all functions that require one fail.
func checkLinear(t *testing.T, p impl.Poset, list []int) {
	t.Helper()
	want := relationOf(p.Less).isOrder(list)
	if got, ok := impl.IsLinear(p, list); !ok || got != want {
		t.Errorf("IsLinear(%v, %v) = %v, %v", p, list, got, ok)
	}
	if _, ok := impl.RankLinear(p, list); ok != want {
		t.Errorf("RankLinear(%v, %v): %v", p, list, ok)
	}
	if !want {
		checkNoLinear(t, p, list)
	}
}

func checkNoLinear(t *testing.T, p impl.Poset, list []int) {
	t.Helper()
	checkNoNumber(t, "RankLinear")(impl.RankLinear(p, list))
	for _, k := range []int{-1, 0, 1} {
		checkNoList(t, "ToggleLinear")(impl.ToggleLinear(p, list, k))
		checkNoList(t, "PromoteLinear")(impl.PromoteLinear(p, list, k))
	}
	checkNoList(t, "EvacuateLinear")(impl.EvacuateLinear(p, list))
	checkNoList(t, "CoevacuateLinear")(impl.CoevacuateLinear(p, list))
	checkNoList(t, "SlideOf")(impl.SlideOf(p, list))
	checkNoRows(t, "PromotionOrbit")(impl.PromotionOrbit(p, list))
	checkNoList(t, "DualLinear")(impl.DualLinear(p, list))
}

func TestNoPosetsWithLinearExtensions(t *testing.T) {
	for _, p := range badPosets() {
		up := promotionPlaces(len(p.Less) + 1)
		for _, list := range [][]int{nil, {}, {0}, {0, 1}, {0, 1, 2}, up} {
			checkNoLinear(t, p, list)
			if is, ok := impl.IsLinear(p, list); is || ok {
				t.Errorf("IsLinear(%v, %v) = %v, %v", p, list, is, ok)
			}
		}
		for _, k := range []int{0, 1, -1, 100, math.MaxInt, math.MinInt} {
			checkNoList(t, "LinearWith")(impl.LinearWith(p, k))
			checkNoNumber(t, "CountReturned")(impl.CountReturned(p, k))
		}
		checkNoNumber(t, "CountLinear")(impl.CountLinear(p))
		checkNoRows(t, "AllLinear")(impl.AllLinear(p))
		checkNoNumber(t, "PromotionOrder")(impl.PromotionOrder(p))
		checkNoNumber(t, "SelfEvacuated")(impl.SelfEvacuated(p))
	}
}

func TestOneElementInALine(t *testing.T) {
	p, w := impl.Poset{Less: []int{0}}, []int{0}
	if is, ok := impl.IsLinear(p, w); !is || !ok {
		t.Errorf("IsLinear = %v, %v", is, ok)
	}
	if is, ok := impl.IsLinear(p, nil); is || !ok {
		t.Errorf("IsLinear of nil = %v, %v", is, ok)
	}
	checkNumber(t, "CountLinear", 1)(impl.CountLinear(p))
	checkList(t, "LinearWith", w)(impl.LinearWith(p, 0))
	checkNoRanks(t, p, 1)
	checkNumber(t, "RankLinear", 0)(impl.RankLinear(p, w))
	if all, ok := impl.AllLinear(p); !ok || !sameRows(all, [][]int{w}) {
		t.Errorf("AllLinear = %v, %v", all, ok)
	}
	for _, i := range append(notPlaces(1), 1, 2) {
		checkNoList(t, "ToggleLinear")(impl.ToggleLinear(p, w, i))
	}
	for _, times := range []int{-100, -1, 0, 1, 100} {
		checkList(t, "PromoteLinear", w)(impl.PromoteLinear(p, w, times))
	}
	checkList(t, "EvacuateLinear", w)(impl.EvacuateLinear(p, w))
	checkList(t, "CoevacuateLinear", w)(impl.CoevacuateLinear(p, w))
	checkList(t, "SlideOf", w)(impl.SlideOf(p, w))
	if orbit, ok := impl.PromotionOrbit(p, w); !ok || !sameRows(orbit, [][]int{w}) {
		t.Errorf("PromotionOrbit = %v, %v", orbit, ok)
	}
	checkNumber(t, "PromotionOrder", 1)(impl.PromotionOrder(p))
	checkList(t, "DualLinear", w)(impl.DualLinear(p, w))
	for _, times := range []int{0, 1, 99, 100} {
		checkNumber(t, "CountReturned", 1)(impl.CountReturned(p, times))
	}
	for _, times := range []int{-1, 101} {
		checkNoNumber(t, "CountReturned")(impl.CountReturned(p, times))
	}
	checkNumber(t, "SelfEvacuated", 1)(impl.SelfEvacuated(p))
}
