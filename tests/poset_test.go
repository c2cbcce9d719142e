package tests

import (
	"math"
	"slices"
	"strings"
	"testing"

	"loop.example/g01138/impl"
)

func samePairs(a, b [][]int) bool { return slices.EqualFunc(a, b, slices.Equal) }

func isZero(p impl.Poset) bool { return p.Less == nil }

func mustParse(t *testing.T, text string) impl.Poset {
	t.Helper()
	p, ok := impl.ParsePoset(text)
	if !ok {
		t.Fatalf("ParsePoset(%q) fails", text)
	}
	return p
}

func TestChapter1Example(t *testing.T) {
	p, ok := impl.Rectangle(2, 2)
	if !ok || !slices.Equal(p.Less, []int{0, 1, 1, 7}) {
		t.Fatalf("Rectangle(2, 2) = %v, %v", p, ok)
	}
	if text, ok := impl.PosetText(p); !ok || text != "4:0<1,0<2,1<3,2<3" {
		t.Errorf("PosetText = %q, %v", text, ok)
	}
	if list, ok := impl.IdealsOf(p); !ok || !slices.Equal(list, []int{0, 1, 3, 5, 7, 15}) {
		t.Errorf("IdealsOf = %v, %v", list, ok)
	}
	if n, ok := impl.CountIdeals(p); !ok || n != 6 {
		t.Errorf("CountIdeals = %v, %v", n, ok)
	}
	if list, ok := impl.AntichainsOf(p); !ok || !slices.Equal(list, []int{0, 1, 2, 4, 6, 8}) {
		t.Errorf("AntichainsOf = %v, %v", list, ok)
	}
}

func TestMaxSize(t *testing.T) {
	if impl.MaxSize != 10 {
		t.Errorf("MaxSize = %v", impl.MaxSize)
	}
}

// TestIsPosetOfSmallLists tries every list of up to 4 numbers in -1..2^n, and some of other lengths.
func TestIsPosetOfSmallLists(t *testing.T) {
	counts := []int{0, 1, 2, 7, 40}
	for n := 0; n <= 4; n++ {
		less := make([]int, n)
		found := 0
		var fill func(i int)
		fill = func(i int) {
			if i < n {
				for sum := -1; sum <= power(n); sum++ {
					less[i] = sum
					fill(i + 1)
				}
				return
			}
			got, want := impl.IsPoset(impl.Poset{Less: less}), isPosetByDocument(less)
			if got != want {
				t.Errorf("IsPoset(%v) = %v", less, got)
			}
			if got {
				found++
			}
		}
		fill(0)
		if found != counts[n] {
			t.Errorf("%d posets of %d elements, not %d", found, n, counts[n])
		}
	}
}

func TestIsPosetOfMoreElements(t *testing.T) {
	if n := len(everyPoset(5)); n != 357 {
		t.Errorf("%d posets of 5 elements", n)
	}
	for _, p := range somePosets() {
		if !impl.IsPoset(p) {
			t.Errorf("IsPoset(%v) = false", p)
		}
	}
	for _, p := range badPosets() {
		if impl.IsPoset(p) {
			t.Errorf("IsPoset(%v) = true", p)
		}
	}
	// Every list of 5 numbers that may be less as numbers, closed or not.
	for code := range power(10) {
		less := []int{0, code % 2, code / 2 % 4, code / 8 % 8, code / 64}
		if got := impl.IsPoset(impl.Poset{Less: less}); got != isPosetByDocument(less) {
			t.Errorf("IsPoset(%v) = %v", less, got)
		}
	}
}

func TestCoversOf(t *testing.T) {
	for _, p := range somePosets() {
		got, ok := impl.CoversOf(p)
		if want := relationOf(p.Less).covers(); !ok || !samePairs(got, want) {
			t.Errorf("CoversOf(%v) = %v, %v, not %v", p, got, ok, want)
		}
		back, ok := impl.FromCovers(len(p.Less), got)
		if !ok || !slices.Equal(back.Less, p.Less) {
			t.Errorf("FromCovers(%v) = %v, %v, not %v", got, back, ok, p)
		}
	}
	if got, ok := impl.CoversOf(impl.Poset{Less: []int{0}}); len(got) != 0 || !ok {
		t.Errorf("CoversOf one element = %v, %v", got, ok)
	}
}

// TestFromCoversClosesRelations gives any relations, covers or not, in any order.
func TestFromCoversClosesRelations(t *testing.T) {
	for n := 1; n <= 5; n++ {
		var pairs [][]int
		for i := range n {
			for j := range i {
				pairs = append(pairs, []int{j, i})
			}
		}
		for choice := range power(len(pairs)) {
			r := emptyRelation(n)
			var given [][]int
			for k, pair := range pairs {
				if in(k, choice) {
					given = append(given, pair)
					r[pair[0]][pair[1]] = true
				}
			}
			want := r.closed().poset()
			slices.Reverse(given)
			for range 2 {
				if got, ok := impl.FromCovers(n, given); !ok || !slices.Equal(got.Less, want.Less) {
					t.Errorf("FromCovers(%d, %v) = %v, %v, not %v", n, given, got, ok, want)
				}
				given = append(given, given...)
			}
		}
	}
}

func TestFromCoversAtItsLimits(t *testing.T) {
	relations := func(count int) [][]int {
		var list [][]int
		for k := range count {
			list = append(list, []int{k % 2, 2 + k%8})
		}
		return list
	}
	if p, ok := impl.FromCovers(10, relations(100)); !ok || !slices.Equal(p.Less, []int{0, 0, 1, 2, 1, 2, 1, 2, 1, 2}) {
		t.Errorf("100 relations: %v, %v", p, ok)
	}
	if p, ok := impl.FromCovers(10, relations(101)); ok || !isZero(p) {
		t.Errorf("101 relations: %v, %v", p, ok)
	}
	for n := 1; n <= 10; n++ {
		if p, ok := impl.FromCovers(n, nil); !ok || !slices.Equal(p.Less, make([]int, n)) {
			t.Errorf("FromCovers(%d, nil) = %v, %v", n, p, ok)
		}
	}
	for _, n := range []int{0, -1, 11, 1 << 40, math.MaxInt, math.MinInt} {
		if p, ok := impl.FromCovers(n, nil); ok || !isZero(p) {
			t.Errorf("FromCovers(%d, nil) = %v, %v", n, p, ok)
		}
	}
}

func TestFromCoversOfNoRelations(t *testing.T) {
	for _, pair := range [][]int{
		nil, {}, {0}, {0, 1, 2}, {0, 0}, {1, 0}, {2, 2}, {-1, 0}, {-1, 1}, {0, 3}, {2, 3}, {3, 4}, {0, -1},
		{math.MinInt, 1}, {0, math.MaxInt}, {0, 1 << 32}, {64, 65}, {math.MinInt, math.MaxInt},
	} {
		for _, covers := range [][][]int{{pair}, {{0, 1}, pair}, {pair, {1, 2}}} {
			if p, ok := impl.FromCovers(3, covers); ok || !isZero(p) {
				t.Errorf("FromCovers(3, %v) = %v, %v", covers, p, ok)
			}
		}
	}
}

func TestIdealsAndAntichains(t *testing.T) {
	for _, p := range somePosets() {
		r := relationOf(p.Less)
		ideals := r.setsWhere(r.isIdeal)
		if got, ok := impl.IdealsOf(p); !ok || !slices.Equal(got, ideals) {
			t.Errorf("IdealsOf(%v) = %v, %v", p, got, ok)
		}
		if got, ok := impl.CountIdeals(p); !ok || got != len(ideals) {
			t.Errorf("CountIdeals(%v) = %v, %v", p, got, ok)
		}
		antichains := r.setsWhere(r.isAntichain)
		if got, ok := impl.AntichainsOf(p); !ok || !slices.Equal(got, antichains) {
			t.Errorf("AntichainsOf(%v) = %v, %v", p, got, ok)
		}
		for s := range power(len(r)) {
			if got, ok := impl.IsIdeal(p, s); !ok || got != r.isIdeal(s) {
				t.Errorf("IsIdeal(%v, %d) = %v, %v", p, s, got, ok)
			}
			if got, ok := impl.IsAntichain(p, s); !ok || got != r.isAntichain(s) {
				t.Errorf("IsAntichain(%v, %d) = %v, %v", p, s, got, ok)
			}
		}
	}
}

// TestIdealsTellAntichains goes from ideals to antichains and back.
func TestIdealsTellAntichains(t *testing.T) {
	for _, p := range somePosets() {
		ideals, _ := impl.IdealsOf(p)
		var tops []int
		for _, s := range ideals {
			top, ok := impl.TopOf(p, s)
			if back, fine := impl.IdealOf(p, top); !ok || !fine || back != s {
				t.Errorf("IdealOf(%v, %d) = %d, %v, not %d", p, top, back, fine, s)
			}
			tops = append(tops, top)
		}
		slices.Sort(tops)
		if antichains, ok := impl.AntichainsOf(p); !ok || !slices.Equal(antichains, tops) {
			t.Errorf("TopOf the ideals of %v are %v, not %v", p, tops, antichains)
		}
	}
}

func TestIdealOfTopOfBottomOf(t *testing.T) {
	for _, p := range somePosets() {
		r := relationOf(p.Less)
		for s := range power(len(r)) {
			ideal, top, bottom := s, 0, 0
			for e := range r {
				above, below := false, false
				for f := range r {
					if in(f, s) && r[e][f] {
						above = true
					}
					if in(f, s) && r[f][e] {
						below = true
					}
				}
				if above && !in(e, s) {
					ideal += power(e)
				}
				if in(e, s) && !above {
					top += power(e)
				}
				if in(e, s) && !below {
					bottom += power(e)
				}
			}
			if got, ok := impl.IdealOf(p, s); !ok || got != ideal {
				t.Errorf("IdealOf(%v, %d) = %d, %v, not %d", p, s, got, ok, ideal)
			}
			if got, ok := impl.TopOf(p, s); !ok || got != top {
				t.Errorf("TopOf(%v, %d) = %d, %v, not %d", p, s, got, ok, top)
			}
			if got, ok := impl.BottomOf(p, s); !ok || got != bottom {
				t.Errorf("BottomOf(%v, %d) = %d, %v, not %d", p, s, got, ok, bottom)
			}
		}
	}
}

// TestEmptyAndWholeSet holds for each poset what the document says of any set, for the two sets at the ends.
func TestEmptyAndWholeSet(t *testing.T) {
	for _, p := range somePosets() {
		whole := power(len(p.Less)) - 1
		for _, s := range []int{0, whole} {
			if is, ok := impl.IsIdeal(p, s); !is || !ok {
				t.Errorf("IsIdeal(%v, %d) = %v, %v", p, s, is, ok)
			}
			if got, ok := impl.IdealOf(p, s); got != s || !ok {
				t.Errorf("IdealOf(%v, %d) = %v, %v", p, s, got, ok)
			}
		}
		if is, ok := impl.IsAntichain(p, 0); !is || !ok {
			t.Errorf("IsAntichain(%v, 0) = %v, %v", p, is, ok)
		}
		if got, ok := impl.TopOf(p, 0); got != 0 || !ok {
			t.Errorf("TopOf(%v, 0) = %v, %v", p, got, ok)
		}
		if got, ok := impl.BottomOf(p, 0); got != 0 || !ok {
			t.Errorf("BottomOf(%v, 0) = %v, %v", p, got, ok)
		}
	}
	p := mustParse(t, "4:0<1,0<2,1<3,2<3")
	if is, ok := impl.IsAntichain(p, 15); is || !ok {
		t.Errorf("IsAntichain of all = %v, %v", is, ok)
	}
	if got, ok := impl.TopOf(p, 15); got != 8 || !ok {
		t.Errorf("TopOf all = %v, %v", got, ok)
	}
	if got, ok := impl.BottomOf(p, 15); got != 1 || !ok {
		t.Errorf("BottomOf all = %v, %v", got, ok)
	}
}

func TestOneElement(t *testing.T) {
	p := impl.Poset{Less: []int{0}}
	if list, ok := impl.IdealsOf(p); !ok || !slices.Equal(list, []int{0, 1}) {
		t.Errorf("IdealsOf = %v, %v", list, ok)
	}
	if list, ok := impl.AntichainsOf(p); !ok || !slices.Equal(list, []int{0, 1}) {
		t.Errorf("AntichainsOf = %v, %v", list, ok)
	}
	if list, ok := impl.HeightsOf(p); !ok || !slices.Equal(list, []int{0}) {
		t.Errorf("HeightsOf = %v, %v", list, ok)
	}
	if is, ok := impl.IsRanked(p); !ok || !is {
		t.Errorf("IsRanked = %v, %v", is, ok)
	}
	if q, ok := impl.DualOf(p); !ok || !slices.Equal(q.Less, []int{0}) {
		t.Errorf("DualOf = %v, %v", q, ok)
	}
	if text, ok := impl.PosetText(p); !ok || text != "1:-" {
		t.Errorf("PosetText = %q, %v", text, ok)
	}
	if q, ok := impl.SumOf(p, p); !ok || !slices.Equal(q.Less, []int{0, 0}) {
		t.Errorf("SumOf = %v, %v", q, ok)
	}
	if q, ok := impl.StackOf(p, p); !ok || !slices.Equal(q.Less, []int{0, 1}) {
		t.Errorf("StackOf = %v, %v", q, ok)
	}
}

func TestHeightsAndRanks(t *testing.T) {
	for _, p := range somePosets() {
		r := relationOf(p.Less)
		heights := make([]int, len(r))
		for i := range r {
			heights[i] = r.height(i)
		}
		if got, ok := impl.HeightsOf(p); !ok || !slices.Equal(got, heights) {
			t.Errorf("HeightsOf(%v) = %v, %v, not %v", p, got, ok, heights)
		}
		if got, ok := impl.IsRanked(p); !ok || got != r.isRanked() {
			t.Errorf("IsRanked(%v) = %v, %v", p, got, ok)
		}
	}
	for text, want := range map[string]bool{
		"5:0<1,0<2,1<4,2<3,3<4": false, // two ways up of different lengths
		"4:0<1,1<3,2<3":         false, // 3 covers 2, which has nothing below
		"4:0<2,1<2,1<3":         true,
		"3:-":                   true,
	} {
		if got, ok := impl.IsRanked(mustParse(t, text)); !ok || got != want {
			t.Errorf("IsRanked of %q = %v, %v", text, got, ok)
		}
	}
}

func TestDualOf(t *testing.T) {
	for _, p := range somePosets() {
		r, n := relationOf(p.Less), len(p.Less)
		want := emptyRelation(n)
		for j := range r {
			for i := range r {
				want[n-1-i][n-1-j] = r[j][i]
			}
		}
		got, ok := impl.DualOf(p)
		if !ok || !slices.Equal(got.Less, want.poset().Less) {
			t.Errorf("DualOf(%v) = %v, %v", p, got, ok)
		}
		if back, ok := impl.DualOf(got); !ok || !slices.Equal(back.Less, p.Less) {
			t.Errorf("DualOf twice of %v = %v, %v", p, back, ok)
		}
		// The ideals of the dual are what the ideals leave out.
		here, _ := impl.CountIdeals(p)
		if there, ok := impl.CountIdeals(got); !ok || there != here {
			t.Errorf("%v has %d ideals, its dual %d", p, here, there)
		}
	}
	if got, ok := impl.DualOf(mustParse(t, "3:0<1,0<2")); !ok || !slices.Equal(got.Less, []int{0, 0, 3}) {
		t.Errorf("DualOf a fork = %v, %v", got, ok)
	}
}

func TestSumsAndStacks(t *testing.T) {
	list := append(largePosets(), impl.Poset{Less: []int{0}})
	for n := 1; n <= 3; n++ {
		list = append(list, everyPoset(n)...)
	}
	for _, p := range list {
		for _, q := range list {
			checkSumAndStack(t, p, q)
		}
	}
}

func checkSumAndStack(t *testing.T, p, q impl.Poset) {
	t.Helper()
	sum, sumOk := impl.SumOf(p, q)
	stack, stackOk := impl.StackOf(p, q)
	n, m := len(p.Less), len(q.Less)
	if n+m > 10 {
		if sumOk || stackOk || !isZero(sum) || !isZero(stack) {
			t.Errorf("%v and %v: sum %v, %v, stack %v, %v", p, q, sum, sumOk, stack, stackOk)
		}
		return
	}
	first, second := relationOf(p.Less), relationOf(q.Less)
	wantSum, wantStack := emptyRelation(n+m), emptyRelation(n+m)
	for j := range n + m {
		for i := range n + m {
			within := i < n && j < n && first[j][i] || i >= n && j >= n && second[j-n][i-n]
			wantSum[j][i] = within
			wantStack[j][i] = within || j < n && i >= n
		}
	}
	if !sumOk || !slices.Equal(sum.Less, wantSum.poset().Less) {
		t.Errorf("SumOf(%v, %v) = %v, %v", p, q, sum, sumOk)
	}
	if !stackOk || !slices.Equal(stack.Less, wantStack.poset().Less) {
		t.Errorf("StackOf(%v, %v) = %v, %v", p, q, stack, stackOk)
	}
	below, _ := impl.CountIdeals(p)
	above, _ := impl.CountIdeals(q)
	if got, ok := impl.CountIdeals(sum); !ok || got != below*above {
		t.Errorf("the sum of %v and %v has %d ideals", p, q, got)
	}
	if got, ok := impl.CountIdeals(stack); !ok || got != below+above-1 {
		t.Errorf("the stack of %v and %v has %d ideals", p, q, got)
	}
}

func TestSumsAtMaxSize(t *testing.T) {
	for n := 1; n <= 10; n++ {
		for m := 1; m <= 10; m++ {
			p, q := impl.Poset{Less: make([]int, n)}, impl.Poset{Less: make([]int, m)}
			sum, ok := impl.SumOf(p, q)
			if ok != (n+m <= 10) || ok != impl.IsPoset(sum) || !ok && !isZero(sum) {
				t.Errorf("SumOf %d and %d: %v, %v", n, m, sum, ok)
			}
			stack, ok := impl.StackOf(p, q)
			if ok != (n+m <= 10) || ok != impl.IsPoset(stack) || !ok && !isZero(stack) {
				t.Errorf("StackOf %d and %d: %v, %v", n, m, stack, ok)
			}
		}
	}
}

func choose(n, k int) int {
	result := 1
	for i := 1; i <= k; i++ {
		result = result * (n - k + i) / i
	}
	return result
}

func TestRectangle(t *testing.T) {
	for a := -2; a <= 12; a++ {
		for b := -2; b <= 12; b++ {
			p, ok := impl.Rectangle(a, b)
			if a < 1 || b < 1 || a*b > 10 {
				if ok || !isZero(p) {
					t.Errorf("Rectangle(%d, %d) = %v, %v", a, b, p, ok)
				}
				continue
			}
			want := emptyRelation(a * b)
			for r := range a {
				for c := range b {
					for s := r; s < a; s++ {
						for d := c; d < b; d++ {
							want[b*r+c][b*s+d] = r != s || c != d
						}
					}
				}
			}
			if !ok || !slices.Equal(p.Less, want.poset().Less) {
				t.Errorf("Rectangle(%d, %d) = %v, %v", a, b, p, ok)
			}
			if n, ok := impl.CountIdeals(p); !ok || n != choose(a+b, a) {
				t.Errorf("Rectangle(%d, %d) has %d ideals", a, b, n)
			}
		}
	}
	for _, sides := range [][2]int{
		{1 << 32, 1 << 32}, {1 << 62, 4}, {4, 1 << 62}, {math.MaxInt, math.MaxInt}, {math.MinInt, math.MinInt},
		{math.MaxInt, 1}, {1, math.MaxInt}, {math.MinInt, 1}, {1, math.MinInt}, {math.MinInt, 2}, {3, 6148914691236517206},
	} {
		if p, ok := impl.Rectangle(sides[0], sides[1]); ok || !isZero(p) {
			t.Errorf("Rectangle%v = %v, %v", sides, p, ok)
		}
	}
}

func TestStaircase(t *testing.T) {
	texts := []string{
		"",
		"1:-",
		"3:0<2,1<2",
		"6:0<3,1<3,1<4,2<4,3<5,4<5",
		"10:0<4,1<4,1<5,2<5,2<6,3<6,4<7,5<7,5<8,6<8,7<9,8<9",
	}
	ideals := []int{0, 2, 5, 14, 42}
	for n := 1; n <= 4; n++ {
		p, ok := impl.Staircase(n)
		if text, _ := impl.PosetText(p); !ok || text != texts[n] {
			t.Errorf("Staircase(%d) is %q, %v", n, text, ok)
		}
		if count, ok := impl.CountIdeals(p); !ok || count != ideals[n] {
			t.Errorf("Staircase(%d) has %d ideals", n, count)
		}
	}
	for _, n := range []int{0, -1, 5, 6, 1 << 40, math.MaxInt, math.MinInt} {
		if p, ok := impl.Staircase(n); ok || !isZero(p) {
			t.Errorf("Staircase(%d) = %v, %v", n, p, ok)
		}
	}
}

func TestFence(t *testing.T) {
	texts := []string{
		"",
		"1:-",
		"2:0<1",
		"3:0<2,1<2",
		"4:0<2,1<2,1<3",
		"5:0<3,1<3,1<4,2<4",
		"6:0<3,1<3,1<4,2<4,2<5",
		"7:0<4,1<4,1<5,2<5,2<6,3<6",
		"8:0<4,1<4,1<5,2<5,2<6,3<6,3<7",
		"9:0<5,1<5,1<6,2<6,2<7,3<7,3<8,4<8",
		"10:0<5,1<5,1<6,2<6,2<7,3<7,3<8,4<8,4<9",
	}
	before, ideals := 1, 2
	for n := 1; n <= 10; n++ {
		p, ok := impl.Fence(n)
		if text, _ := impl.PosetText(p); !ok || text != texts[n] {
			t.Errorf("Fence(%d) is %q, %v", n, text, ok)
		}
		// The ideals of fences are counted by the Fibonacci numbers.
		if count, ok := impl.CountIdeals(p); !ok || count != ideals {
			t.Errorf("Fence(%d) has %d ideals, not %d", n, count, ideals)
		}
		before, ideals = ideals, before+ideals
	}
	for _, n := range []int{0, -1, 11, 1 << 40, math.MaxInt, math.MinInt} {
		if p, ok := impl.Fence(n); ok || !isZero(p) {
			t.Errorf("Fence(%d) = %v, %v", n, p, ok)
		}
	}
}

func TestKnownCounts(t *testing.T) {
	for n := 1; n <= 10; n++ {
		antichain := impl.Poset{Less: make([]int, n)}
		chain := impl.Poset{Less: make([]int, n)}
		for i := range n {
			chain.Less[i] = power(i) - 1
		}
		if got, ok := impl.CountIdeals(antichain); !ok || got != power(n) {
			t.Errorf("%d elements without relations have %d ideals", n, got)
		}
		if got, ok := impl.CountIdeals(chain); !ok || got != n+1 {
			t.Errorf("a chain of %d has %d ideals", n, got)
		}
		if got, ok := impl.AntichainsOf(antichain); !ok || len(got) != power(n) {
			t.Errorf("%d elements without relations have %d antichains", n, len(got))
		}
		if got, ok := impl.AntichainsOf(chain); !ok || len(got) != n+1 {
			t.Errorf("a chain of %d has %d antichains", n, len(got))
		}
	}
}

func TestPosetTexts(t *testing.T) {
	seen := map[string][]int{}
	for _, p := range somePosets() {
		text, ok := impl.PosetText(p)
		if other, double := seen[text]; !ok || double && !slices.Equal(other, p.Less) {
			t.Errorf("PosetText(%v) = %q, %v, as of %v", p, text, ok, other)
		}
		seen[text] = p.Less
		if back, ok := impl.ParsePoset(text); !ok || !slices.Equal(back.Less, p.Less) {
			t.Errorf("ParsePoset(%q) = %v, %v", text, back, ok)
		}
	}
	for text, less := range map[string][]int{
		"3:-":                   {0, 0, 0},
		"10:-":                  make([]int, 10),
		"10:0<9":                {0, 0, 0, 0, 0, 0, 0, 0, 0, 1},
		"3:0<1,1<2":             {0, 1, 3},
		"5:0<1,0<2,1<4,2<3,3<4": {0, 1, 1, 5, 15},
	} {
		if p, ok := impl.ParsePoset(text); !ok || !slices.Equal(p.Less, less) {
			t.Errorf("ParsePoset(%q) = %v, %v", text, p, ok)
		}
		if got, ok := impl.PosetText(impl.Poset{Less: less}); !ok || got != text {
			t.Errorf("PosetText(%v) = %q, %v", less, got, ok)
		}
	}
}

// textsOfNoPoset are no PosetTexts, each for another reason.
func textsOfNoPoset() []string {
	return []string{
		"", ":", "-", "3", "3:", ":-", ":0<1", "0:-", "11:-", "-1:-", "3-", "3;-",
		"03:-", "+3:-", " 3:-", "3:- ", "3 :-", "3: -", "3:-\n", "\n3:-", "3:--", "3:-,", "3:-,0<1", "3:0<1,-", "x:-", "3.0:-", "3:−",
		"3::-", "3:-:", "3:0<1:", "3:0<1:1<2", "3:0<1,", "3:,0<1", "3:0<1,,1<2", "3:0<1 ,1<2", "3:0<1, 1<2", "3:0<1;1<2", "3:0<1 1<2",
		"3:0<", "3:<1", "3:<", "3:0", "3:01", "3:0>1", "3:0<=1", "3:0<1<2", "3:0<<1", "3:00<1", "3:0<01", "3:+0<1", "3:0<+1", "3:-0<1", "3:-1<1", "3:0<-1",
		"3:1<0", "3:0<0", "3:0<3", "3:2<3", "3:0<1,0<3", "1:0<0", "1:0<1",
		"3:1<2,0<1", "3:0<2,0<1", "3:0<1,0<1", "3:0<1,0<2,1<2", "3:0<1,1<2,0<2",
		"9223372036854775808:-", "18446744073709551619:-", "99999999999999999999999:-", "3:0<9223372036854775808", "3:0<18446744073709551617",
		"3:0<1,1<2\x00", "3\x00:-", "\xff", "three:-", "3:a<b", "0x3:-", "3:0_0<1",
		strings.Repeat("3:-", 1000), "3:" + strings.Repeat("0<1,", 100000) + "1<2", "3:" + strings.Repeat("0<1,", 99) + "1<2",
		strings.Repeat("1", 100000), strings.Repeat("0", 100000) + "3:-", "3:0<1" + strings.Repeat(",", 100000),
	}
}

func TestTextsOfNoPoset(t *testing.T) {
	for _, text := range textsOfNoPoset() {
		if p, ok := impl.ParsePoset(text); ok || !isZero(p) {
			t.Errorf("ParsePoset(%.40q) = %v, %v", text, p, ok)
		}
	}
}

// TestTextsThatAreAccepted tries all short texts: those that are taken are PosetTexts.
func TestTextsThatAreAccepted(t *testing.T) {
	taken := 0
	letters := "0123:<,-"
	var try func(text string)
	try = func(text string) {
		if p, ok := impl.ParsePoset(text); ok {
			taken++
			if back, fine := impl.PosetText(p); !fine || back != text {
				t.Errorf("ParsePoset(%q) has the text %q", text, back)
			}
		}
		if len(text) < 6 {
			for _, letter := range letters {
				try(text + string(letter))
			}
		}
	}
	try("")
	// Those without covers of 1, 2, 3 and 10 elements, and those with one cover: 1 of 2 elements,
	// 3 of 3 elements, and 6 of 10 elements with the digits that are tried.
	if taken != 14 {
		t.Errorf("%d texts are taken", taken)
	}
}

func TestNoPosets(t *testing.T) {
	good := impl.Poset{Less: []int{0, 1}}
	for _, p := range badPosets() {
		checkFails(t, p, "CoversOf", func() (bool, bool) { x, ok := impl.CoversOf(p); return x == nil, ok })
		checkFails(t, p, "IdealsOf", func() (bool, bool) { x, ok := impl.IdealsOf(p); return x == nil, ok })
		checkFails(t, p, "CountIdeals", func() (bool, bool) { x, ok := impl.CountIdeals(p); return x == 0, ok })
		checkFails(t, p, "AntichainsOf", func() (bool, bool) { x, ok := impl.AntichainsOf(p); return x == nil, ok })
		checkFails(t, p, "HeightsOf", func() (bool, bool) { x, ok := impl.HeightsOf(p); return x == nil, ok })
		checkFails(t, p, "IsRanked", func() (bool, bool) { x, ok := impl.IsRanked(p); return !x, ok })
		checkFails(t, p, "DualOf", func() (bool, bool) { x, ok := impl.DualOf(p); return isZero(x), ok })
		checkFails(t, p, "PosetText", func() (bool, bool) { x, ok := impl.PosetText(p); return x == "", ok })
		for _, q := range append(badPosets(), good) {
			checkFails(t, p, "SumOf", func() (bool, bool) { x, ok := impl.SumOf(p, q); return isZero(x), ok })
			checkFails(t, p, "SumOf behind", func() (bool, bool) { x, ok := impl.SumOf(q, p); return isZero(x), ok })
			checkFails(t, p, "StackOf", func() (bool, bool) { x, ok := impl.StackOf(p, q); return isZero(x), ok })
			checkFails(t, p, "StackOf behind", func() (bool, bool) { x, ok := impl.StackOf(q, p); return isZero(x), ok })
		}
		checkSetsFail(t, p, []int{0, 1, 3, -1, math.MaxInt, math.MinInt})
	}
}

func TestNoSets(t *testing.T) {
	for n := 1; n <= 4; n++ {
		for _, p := range everyPoset(n) {
			checkSetsFail(t, p, notSetsOf(n))
		}
	}
	for _, p := range largePosets() {
		checkSetsFail(t, p, notSetsOf(len(p.Less)))
	}
}

func checkSetsFail(t *testing.T, p impl.Poset, sets []int) {
	t.Helper()
	for _, s := range sets {
		checkFails(t, p, "IsIdeal", func() (bool, bool) { x, ok := impl.IsIdeal(p, s); return !x, ok })
		checkFails(t, p, "IdealOf", func() (bool, bool) { x, ok := impl.IdealOf(p, s); return x == 0, ok })
		checkFails(t, p, "TopOf", func() (bool, bool) { x, ok := impl.TopOf(p, s); return x == 0, ok })
		checkFails(t, p, "BottomOf", func() (bool, bool) { x, ok := impl.BottomOf(p, s); return x == 0, ok })
		checkFails(t, p, "IsAntichain", func() (bool, bool) { x, ok := impl.IsAntichain(p, s); return !x, ok })
	}
}

func checkFails(t *testing.T, p impl.Poset, name string, call func() (isZero, ok bool)) {
	t.Helper()
	if zero, ok := call(); !zero || ok {
		t.Errorf("%s of %v: zero %v, ok %v", name, p, zero, ok)
	}
}
