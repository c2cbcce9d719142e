package tests

import (
	"math"
	"math/big"
	"slices"
	"strings"
	"testing"

	"loop.example/g01138/impl"
)

func TestChapter3Example(t *testing.T) {
	p := mustParse(t, "4:0<1,0<2,1<3,2<3")
	orbits, ok := impl.AllOrbits(p)
	if !ok || !sameRows(orbits, [][]int{{0, 1, 7, 15}, {3, 5}}) {
		t.Errorf("AllOrbits = %v, %v", orbits, ok)
	}
	for s, want := range map[int]int{0: 8, 1: 8, 7: 8, 15: 8, 3: 4, 5: 4} {
		if got, ok := impl.OrbitSum(p, s); !ok || got != want {
			t.Errorf("OrbitSum(%d) = %d, %v", s, got, ok)
		}
	}
	if upper, lower, ok := impl.MeanOfIdeals(p); !ok || upper != 2 || lower != 1 {
		t.Errorf("MeanOfIdeals = %d, %d, %v", upper, lower, ok)
	}
	for s, want := range map[int]string{1: "URUR", 7: "RURU"} {
		if got, ok := impl.IdealWord(2, 2, s); !ok || got != want {
			t.Errorf("IdealWord(%d) = %q, %v", s, got, ok)
		}
	}
	if got, ok := impl.PromoteIdeal(2, 2, 1); !ok || got != 7 {
		t.Errorf("PromoteIdeal(1) = %d, %v", got, ok)
	}
}

func sameRows(one, other [][]int) bool {
	return slices.EqualFunc(one, other, func(x, y []int) bool { return slices.Equal(x, y) })
}

func TestLimitsOfChapter3(t *testing.T) {
	if impl.MaxSides != 9 {
		t.Errorf("MaxSides = %d", impl.MaxSides)
	}
}

// orbitPosets are somePosets and those with names, of all sizes.
func orbitPosets() []impl.Poset {
	list := somePosets()
	for n := 1; n <= 10; n++ {
		fence, _ := impl.Fence(n)
		list = append(list, fence)
		if stairs, ok := impl.Staircase(n); ok {
			list = append(list, stairs)
		}
		for m := 1; n*m <= 10; m++ {
			rectangle, _ := impl.Rectangle(n, m)
			list = append(list, rectangle)
		}
	}
	return list
}

func TestOrbits(t *testing.T) {
	for _, p := range orbitPosets() {
		r := relationOf(p.Less)
		next := r.rows()
		want := r.orbitsIn(next)
		if got, ok := impl.AllOrbits(p); !ok || !sameRows(got, want) {
			t.Errorf("AllOrbits(%v) = %v, %v, not %v", p, got, ok, want)
		}
		if got, ok := impl.OrbitLengths(p); !ok || !slices.Equal(got, lengthsOf(want)) {
			t.Errorf("OrbitLengths(%v) = %v, %v, not %v", p, got, ok, lengthsOf(want))
		}
		if got, ok := impl.OrderOfRow(p); !ok || leastMultiple(lengthsOf(want)).Cmp(big.NewInt(int64(got))) != 0 {
			t.Errorf("OrderOfRow(%v) = %d, %v of the orbits %v", p, got, ok, want)
		}
		for s := range next {
			if got, ok := impl.OrbitOf(p, s); !ok || !slices.Equal(got, orbitIn(next, s)) {
				t.Errorf("OrbitOf(%v, %d) = %v, %v, not %v", p, s, got, ok, orbitIn(next, s))
			}
		}
	}
}

// TestOrbitsShareAllIdeals compares the orbits with the ideals, and with each other, by the program alone.
func TestOrbitsShareAllIdeals(t *testing.T) {
	for _, p := range orbitPosets() {
		ideals, _ := impl.IdealsOf(p)
		orbits, ok := impl.AllOrbits(p)
		if !ok {
			t.Errorf("AllOrbits(%v) fails", p)
		}
		together := slices.Concat(orbits...)
		slices.Sort(together)
		if !slices.Equal(together, ideals) {
			t.Errorf("AllOrbits(%v) = %v do not share the ideals %v", p, orbits, ideals)
		}
		for _, orbit := range orbits {
			for k, s := range orbit {
				turned := slices.Concat(orbit[k:], orbit[:k])
				if got, ok := impl.OrbitOf(p, s); !ok || !slices.Equal(got, turned) {
					t.Errorf("OrbitOf(%v, %d) = %v, %v, not %v", p, s, got, ok, turned)
				}
				if back, ok := impl.RowmotionTimes(p, s, len(orbit)); !ok || back != s {
					t.Errorf("%d rowmotions of %v take %d to %d, %v", len(orbit), p, s, back, ok)
				}
			}
		}
	}
}

// TestKnownOrbits has orbits of all ideals, many short ones, and lengths that do not rise.
func TestKnownOrbits(t *testing.T) {
	for n := 1; n <= 10; n++ {
		chain, ideals := impl.Poset{}, []int{0}
		for i := range n {
			chain.Less = append(chain.Less, power(i)-1)
			ideals = append(ideals, power(i+1)-1)
		}
		if got, ok := impl.AllOrbits(chain); !ok || !sameRows(got, [][]int{ideals}) {
			t.Errorf("AllOrbits(%v) = %v, %v", chain, got, ok)
		}
		for k, s := range ideals {
			if got, ok := impl.OrbitOf(chain, s); !ok || !slices.Equal(got, slices.Concat(ideals[k:], ideals[:k])) {
				t.Errorf("OrbitOf(%v, %d) = %v, %v", chain, s, got, ok)
			}
			if got, ok := impl.OrbitSum(chain, s); !ok || got != n*(n+1)/2 {
				t.Errorf("OrbitSum(%v, %d) = %d, %v", chain, s, got, ok)
			}
		}
		loose := impl.Poset{Less: make([]int, n)}
		if got, ok := impl.OrbitLengths(loose); !ok || !slices.Equal(got, slices.Repeat([]int{2}, power(n-1))) {
			t.Errorf("OrbitLengths(%v) = %v, %v", loose, got, ok)
		}
	}
	for text, want := range map[string][]int{
		"3:0<2,1<2":         {3, 2},
		"4:0<1,0<2,1<3,2<3": {4, 2},
		"4:0<1,1<3,2<3":     {7},
		"1:-":               {2},
		"10:0<3,0<5,0<8,1<5,1<7,2<9,4<5,4<8,4<9,6<7": {3, 11, 14, 29, 23, 41, 13, 7},
	} {
		if got, ok := impl.OrbitLengths(mustParse(t, text)); !ok || !slices.Equal(got, want) {
			t.Errorf("OrbitLengths(%s) = %v, %v, not %v", text, got, ok, want)
		}
	}
}

func TestOrderOfRow(t *testing.T) {
	for n := 1; n <= 10; n++ {
		loose := impl.Poset{Less: make([]int, n)}
		if got, ok := impl.OrderOfRow(loose); !ok || got != 2 {
			t.Errorf("OrderOfRow(%v) = %d, %v", loose, got, ok)
		}
	}
	for text, want := range map[string]int{
		"1:-":       2,
		"3:0<2,1<2": 6,
		"10:0<3,0<5,0<8,1<5,1<7,2<9,4<5,4<8,4<9,6<7": 3 * 11 * 14 * 29 * 23 * 41 * 13,
	} {
		if got, ok := impl.OrderOfRow(mustParse(t, text)); !ok || got != want {
			t.Errorf("OrderOfRow(%s) = %d, %v, not %d", text, got, ok, want)
		}
	}
	// Behind 10 rowmotions each ideal of these stairs is back, and behind no less.
	stairs, _ := impl.Staircase(4)
	if got, ok := impl.OrderOfRow(stairs); !ok || got != 10 {
		t.Errorf("OrderOfRow(%v) = %d, %v", stairs, got, ok)
	}
}

func TestSizeOf(t *testing.T) {
	for _, p := range append(largePosets(), everyPoset(4)...) {
		r := relationOf(p.Less)
		for s := range power(len(r)) {
			if got, ok := impl.SizeOf(p, s); !ok || got != r.sizeOf(s) {
				t.Errorf("SizeOf(%v, %d) = %d, %v", p, s, got, ok)
			}
		}
	}
	// The set 6 is no ideal.
	p := mustParse(t, "3:0<1,1<2")
	for s, want := range map[int]int{0: 0, 7: 3, 6: 2} {
		if got, ok := impl.SizeOf(p, s); !ok || got != want {
			t.Errorf("SizeOf(%d) = %d, %v", s, got, ok)
		}
	}
}

func TestSumsOverOrbits(t *testing.T) {
	for _, p := range orbitPosets() {
		r := relationOf(p.Less)
		for _, orbit := range r.orbitsIn(r.rows()) {
			sizes, tops := sumBy(orbit, r.sizeOf), sumBy(orbit, r.topSizeOf)
			for _, s := range orbit {
				if got, ok := impl.OrbitSum(p, s); !ok || got != sizes {
					t.Errorf("OrbitSum(%v, %d) = %d, %v, not %d", p, s, got, ok, sizes)
				}
				if got, ok := impl.AntichainSum(p, s); !ok || got != tops {
					t.Errorf("AntichainSum(%v, %d) = %d, %v, not %d", p, s, got, ok, tops)
				}
			}
			checkElementSums(t, p, orbit)
		}
	}
}

func checkElementSums(t *testing.T, p impl.Poset, orbit []int) {
	t.Helper()
	for e := range p.Less {
		want := sumBy(orbit, func(s int) int {
			if in(e, s) {
				return 1
			}
			return 0
		})
		for _, s := range orbit {
			if got, ok := impl.ElementSum(p, s, e); !ok || got != want {
				t.Errorf("ElementSum(%v, %d, %d) = %d, %v, not %d", p, s, e, got, ok, want)
			}
		}
	}
}

func TestEvenOnOrbits(t *testing.T) {
	for _, p := range orbitPosets() {
		r := relationOf(p.Less)
		orbits := r.orbitsIn(r.rows())
		if got, ok := impl.SizeIsEven(p); !ok || got != isEvenBy(orbits, r.sizeOf) {
			t.Errorf("SizeIsEven(%v) = %v, %v of the orbits %v", p, got, ok, orbits)
		}
		if got, ok := impl.AntichainIsEven(p); !ok || got != isEvenBy(orbits, r.topSizeOf) {
			t.Errorf("AntichainIsEven(%v) = %v, %v of the orbits %v", p, got, ok, orbits)
		}
	}
}

// TestKnownEven has posets of which both sizes, one of them or none are even on orbits.
func TestKnownEven(t *testing.T) {
	for _, c := range []struct {
		text              string
		sizes, antichains bool
	}{
		{"1:-", true, true},
		{"5:-", true, true},
		{"5:0<1,1<2,2<3,3<4", true, true},
		{"4:0<1,0<2,1<3,2<3", true, true},
		// The means 5 of 3 and 2 of 2 have the same whole part.
		{"3:0<2,1<2", false, true},
		{"4:0<2,0<3,1<3", true, false},
		{"4:0<1,0<2,0<3", false, false},
		// Not ranked; the first one has just one orbit.
		{"5:0<1,0<2,1<4,2<3,3<4", true, true},
		{"5:0<3,1<4,2<4,3<4", false, false},
	} {
		p := mustParse(t, c.text)
		if got, ok := impl.SizeIsEven(p); !ok || got != c.sizes {
			t.Errorf("SizeIsEven(%s) = %v, %v", c.text, got, ok)
		}
		if got, ok := impl.AntichainIsEven(p); !ok || got != c.antichains {
			t.Errorf("AntichainIsEven(%s) = %v, %v", c.text, got, ok)
		}
	}
}

// TestRectanglesAreEven has all rectangles, those of 10 elements, too, as no sides are told.
func TestRectanglesAreEven(t *testing.T) {
	for a := 1; a <= 10; a++ {
		for b := 1; a*b <= 10; b++ {
			p, _ := impl.Rectangle(a, b)
			if got, ok := impl.SizeIsEven(p); !ok || !got {
				t.Errorf("SizeIsEven(%d, %d) = %v, %v", a, b, got, ok)
			}
			if got, ok := impl.AntichainIsEven(p); !ok || !got {
				t.Errorf("AntichainIsEven(%d, %d) = %v, %v", a, b, got, ok)
			}
			if got, ok := impl.OrderOfRow(p); !ok || got != a+b {
				t.Errorf("OrderOfRow(%d, %d) = %d, %v", a, b, got, ok)
			}
			checkRectangleMeans(t, a, b, p)
		}
	}
}

func checkRectangleMeans(t *testing.T, a, b int, p impl.Poset) {
	t.Helper()
	orbits, _ := impl.AllOrbits(p)
	for _, orbit := range orbits {
		for _, s := range orbit {
			if got, ok := impl.OrbitSum(p, s); !ok || 2*got != a*b*len(orbit) {
				t.Errorf("OrbitSum(%d, %d, %d) = %d, %v in %d ideals", a, b, s, got, ok, len(orbit))
			}
			if got, ok := impl.AntichainSum(p, s); !ok || (a+b)*got != a*b*len(orbit) {
				t.Errorf("AntichainSum(%d, %d, %d) = %d, %v in %d ideals", a, b, s, got, ok, len(orbit))
			}
		}
	}
	mean := big.NewRat(int64(a*b), 2)
	if upper, lower, ok := impl.MeanOfIdeals(p); !ok || int64(upper) != mean.Num().Int64() || int64(lower) != mean.Denom().Int64() {
		t.Errorf("MeanOfIdeals(%d, %d) = %d, %d, %v", a, b, upper, lower, ok)
	}
}

func TestMeanOfIdeals(t *testing.T) {
	for _, p := range orbitPosets() {
		r := relationOf(p.Less)
		mean := meanBy(r.ideals(), r.sizeOf)
		upper, lower, ok := impl.MeanOfIdeals(p)
		if !ok || int64(upper) != mean.Num().Int64() || int64(lower) != mean.Denom().Int64() {
			t.Errorf("MeanOfIdeals(%v) = %d, %d, %v, not %v", p, upper, lower, ok, mean)
		}
	}
	for text, want := range map[string][2]int{"1:-": {1, 2}, "2:-": {1, 1}, "2:0<1": {1, 1}, "3:0<2,1<2": {7, 5}, "3:0<1,0<2": {8, 5}, "10:-": {5, 1}} {
		if upper, lower, ok := impl.MeanOfIdeals(mustParse(t, text)); !ok || upper != want[0] || lower != want[1] {
			t.Errorf("MeanOfIdeals(%s) = %d, %d, %v", text, upper, lower, ok)
		}
	}
}

func TestFixedIdeals(t *testing.T) {
	for _, p := range append(largePosets(), append(everyPoset(4), impl.Poset{Less: []int{0}})...) {
		next := relationOf(p.Less).rows()
		for k := range 13 {
			if got, ok := impl.FixedIdeals(p, k); !ok || got != fixedIn(next, k) {
				t.Errorf("FixedIdeals(%v, %d) = %d, %v, not %d", p, k, got, ok, fixedIn(next, k))
			}
		}
		for _, k := range []int{-1, -2, -1000, 1001, 1002, 1 << 32, math.MaxInt, math.MinInt} {
			checkFails(t, p, "FixedIdeals", func() (bool, bool) { x, ok := impl.FixedIdeals(p, k); return x == 0, ok })
		}
	}
}

func TestFixedIdealsAtMaxMotions(t *testing.T) {
	// The orbits of the second one have lengths that divide 1000 and others; those of a chain of 6 have 7 ideals.
	for _, p := range []impl.Poset{mustParse(t, "6:0<1,1<2,2<3,3<4,4<5"), mustParse(t, "4:0<1,0<2,1<3,2<3"), mustParse(t, "3:0<2,1<2"), pentagon(), {Less: []int{0}}} {
		next := relationOf(p.Less).rows()
		for _, k := range []int{994, 995, 996, 998, 999, 1000} {
			if got, ok := impl.FixedIdeals(p, k); !ok || got != fixedIn(next, k) {
				t.Errorf("FixedIdeals(%v, %d) = %d, %v, not %d", p, k, got, ok, fixedIn(next, k))
			}
		}
	}
	p := mustParse(t, "4:0<1,0<2,1<3,2<3")
	for k, want := range map[int]int{0: 6, 1: 0, 2: 2, 3: 0, 4: 6, 998: 2, 999: 0, 1000: 6} {
		if got, ok := impl.FixedIdeals(p, k); !ok || got != want {
			t.Errorf("FixedIdeals(%d) = %d, %v", k, got, ok)
		}
	}
}

func TestPromotionOrbits(t *testing.T) {
	for _, sides := range smallSides() {
		a, b := sides[0], sides[1]
		p, _ := impl.Rectangle(a, b)
		r := relationOf(p.Less)
		orbits := r.orbitsIn(r.promotions(a, b))
		if got, ok := impl.PromotionOrbits(a, b); !ok || !slices.Equal(got, lengthsOf(orbits)) {
			t.Errorf("PromotionOrbits(%d, %d) = %v, %v, not %v", a, b, got, ok, lengthsOf(orbits))
		}
		if leastMultiple(lengthsOf(orbits)).Cmp(big.NewInt(int64(a+b))) != 0 {
			t.Errorf("promotion of %d and %d has the orbits %v", a, b, orbits)
		}
	}
	for sides, want := range map[[2]int][]int{{1, 1}: {2}, {1, 9}: {10}, {9, 1}: {10}, {2, 2}: {4, 2}, {2, 3}: {5, 5}, {3, 3}: {6, 6, 6, 2}} {
		if got, ok := impl.PromotionOrbits(sides[0], sides[1]); !ok || !slices.Equal(got, want) {
			t.Errorf("PromotionOrbits(%d, %d) = %v, %v, not %v", sides[0], sides[1], got, ok, want)
		}
	}
}

func TestFileSums(t *testing.T) {
	for _, sides := range smallSides() {
		a, b := sides[0], sides[1]
		p, _ := impl.Rectangle(a, b)
		r := relationOf(p.Less)
		next := r.promotions(a, b)
		for s := range next {
			orbit := orbitIn(next, s)
			want := fileSumsOf(a, b, orbit)
			got, ok := impl.FileSums(a, b, s)
			if !ok || !slices.Equal(got, want) {
				t.Errorf("FileSums(%d, %d, %d) = %v, %v, not %v", a, b, s, got, ok, want)
			}
			if sum := sumBy(got, func(x int) int { return x }); sum != sumBy(orbit, r.sizeOf) {
				t.Errorf("FileSums(%d, %d, %d) = %v are %d together", a, b, s, got, sum)
			}
		}
	}
	// Over 0, 3, 15 and 5, where both elements in the middle count; over 1 and 7.
	for s, want := range map[int][]int{0: {2, 4, 2}, 3: {2, 4, 2}, 15: {2, 4, 2}, 5: {2, 4, 2}, 1: {1, 2, 1}, 7: {1, 2, 1}} {
		if got, ok := impl.FileSums(2, 2, s); !ok || !slices.Equal(got, want) {
			t.Errorf("FileSums(2, 2, %d) = %v, %v, not %v", s, got, ok, want)
		}
	}
	// All lengths differ, so that rows cannot be taken for columns.
	if got, ok := impl.FileSums(1, 3, 0); !ok || !slices.Equal(got, []int{3, 2, 1}) {
		t.Errorf("FileSums(1, 3, 0) = %v, %v", got, ok)
	}
	if got, ok := impl.FileSums(3, 1, 0); !ok || !slices.Equal(got, []int{1, 2, 3}) {
		t.Errorf("FileSums(3, 1, 0) = %v, %v", got, ok)
	}
}

func TestBorderWords(t *testing.T) {
	for _, sides := range smallSides() {
		a, b := sides[0], sides[1]
		p, _ := impl.Rectangle(a, b)
		words := borderWords(a, b)
		var ideals []int
		for word, s := range words {
			ideals = append(ideals, s)
			if got, ok := impl.IdealWord(a, b, s); !ok || got != word {
				t.Errorf("IdealWord(%d, %d, %d) = %q, %v, not %q", a, b, s, got, ok, word)
			}
			if got, ok := impl.FromWord(a, b, word); !ok || got != s {
				t.Errorf("FromWord(%d, %d, %q) = %d, %v, not %d", a, b, word, got, ok, s)
			}
			behind, _ := impl.PromoteIdeal(a, b, s)
			if got, ok := impl.IdealWord(a, b, behind); !ok || got != word[1:]+word[:1] {
				t.Errorf("IdealWord(%d, %d) of promotion of %d = %q, %v, not %q turned", a, b, s, got, ok, word)
			}
		}
		slices.Sort(ideals)
		if !slices.Equal(ideals, relationOf(p.Less).ideals()) {
			t.Errorf("the words of %d and %d have the ideals %v", a, b, ideals)
		}
	}
}

func TestKnownBorderWords(t *testing.T) {
	for _, c := range []struct {
		a, b, s int
		word    string
	}{
		{1, 1, 0, "UR"}, {1, 1, 1, "RU"},
		{2, 2, 0, "UURR"}, {2, 2, 15, "RRUU"}, {2, 2, 3, "URRU"}, {2, 2, 5, "RUUR"},
		{2, 3, 0, "UURRR"}, {2, 3, 63, "RRRUU"}, {2, 3, 15, "RURRU"}, {2, 3, 27, "RRUUR"},
		{3, 2, 7, "URURU"}, {3, 2, 1, "UURUR"},
		{1, 9, 7, "RRRURRRRRR"}, {9, 1, 7, "UUUUUURUUU"},
	} {
		if got, ok := impl.IdealWord(c.a, c.b, c.s); !ok || got != c.word {
			t.Errorf("IdealWord(%d, %d, %d) = %q, %v, not %q", c.a, c.b, c.s, got, ok, c.word)
		}
		if got, ok := impl.FromWord(c.a, c.b, c.word); !ok || got != c.s {
			t.Errorf("FromWord(%d, %d, %q) = %d, %v, not %d", c.a, c.b, c.word, got, ok, c.s)
		}
	}
}

// TestTextsThatAreNoBorderWord tries all texts of three letters that are not much longer than a border word.
func TestTextsThatAreNoBorderWord(t *testing.T) {
	for _, sides := range [][2]int{{1, 1}, {1, 2}, {2, 1}, {2, 2}, {1, 4}, {3, 2}, {2, 3}} {
		words := borderWords(sides[0], sides[1])
		for length := range sides[0] + sides[1] + 3 {
			for _, text := range textsOver("RUr", length) {
				if want, isWord := words[text]; isWord {
					if got, ok := impl.FromWord(sides[0], sides[1], text); !ok || got != want {
						t.Errorf("FromWord(%d, %d, %q) = %d, %v", sides[0], sides[1], text, got, ok)
					}
					continue
				}
				checkWordOfNone(t, sides[0], sides[1], text)
			}
		}
	}
	for _, text := range []string{
		"", "U", "R", "UUUU", "RRRR", "URU", "URURU", "URURR", "UURRR", "UUURR", "uRUR", "UrUR", "urur", "URUX", "URU ", " URUR", "URUR ", "URUR\n", "\nURUR",
		"URUR\x00", "URU\x00", "U\xffUR", "UR,UR", "U R U R", "ÜRUR", "ＵＲＵＲ", "UÙR", "RURU\r", "UURRUR", strings.Repeat("UR", 500000), strings.Repeat("x", 1000000),
	} {
		checkWordOfNone(t, 2, 2, text)
	}
	checkWordOfNone(t, 2, 3, "URURU")
	checkWordOfNone(t, 3, 2, "URURR")
}

func checkWordOfNone(t *testing.T, a, b int, text string) {
	t.Helper()
	if got, ok := impl.FromWord(a, b, text); ok || got != 0 {
		t.Errorf("FromWord(%d, %d, %.40q) = %d, %v", a, b, text, got, ok)
	}
}

func TestNoSides(t *testing.T) {
	for _, sides := range badSides() {
		a, b := sides[0], sides[1]
		for _, s := range []int{0, 1, -1, 1023} {
			checkSidesFail(t, a, b, s)
		}
		if got, ok := impl.PromotionOrbits(a, b); ok || got != nil {
			t.Errorf("PromotionOrbits(%d, %d) = %v, %v", a, b, got, ok)
		}
		// Words that have as many letters as sides, wherever there can be some.
		texts := []string{"", "U", "R", "UR", "RU", "UURR"}
		if 0 <= min(a, b) && max(a, b) <= 100 {
			texts = append(texts, strings.Repeat("U", a)+strings.Repeat("R", b), strings.Repeat("R", b)+strings.Repeat("U", a))
		}
		for _, text := range texts {
			checkWordOfNone(t, a, b, text)
		}
	}
}

func TestSidesAtMaxSides(t *testing.T) {
	for _, sides := range [][2]int{{1, 9}, {3, 3}, {9, 1}, {2, 4}, {4, 2}} {
		a, b := sides[0], sides[1]
		if _, ok := impl.PromotionOrbits(a, b); !ok {
			t.Errorf("PromotionOrbits(%d, %d) fails", a, b)
		}
		if got, ok := impl.FileSums(a, b, 0); !ok || len(got) != a+b-1 {
			t.Errorf("FileSums(%d, %d, 0) = %v, %v", a, b, got, ok)
		}
		full := strings.Repeat("R", b) + strings.Repeat("U", a)
		if got, ok := impl.IdealWord(a, b, power(a*b)-1); !ok || got != full {
			t.Errorf("IdealWord(%d, %d, %d) = %q, %v", a, b, power(a*b)-1, got, ok)
		}
		if got, ok := impl.FromWord(a, b, full); !ok || got != power(a*b)-1 {
			t.Errorf("FromWord(%d, %d, %q) = %d, %v", a, b, full, got, ok)
		}
	}
}

func checkSidesFail(t *testing.T, a, b, s int) {
	t.Helper()
	if got, ok := impl.FileSums(a, b, s); ok || got != nil {
		t.Errorf("FileSums(%d, %d, %d) = %v, %v", a, b, s, got, ok)
	}
	if got, ok := impl.IdealWord(a, b, s); ok || got != "" {
		t.Errorf("IdealWord(%d, %d, %d) = %q, %v", a, b, s, got, ok)
	}
}

func TestOneElementInOrbits(t *testing.T) {
	p := impl.Poset{Less: []int{0}}
	for s, orbit := range [][]int{{0, 1}, {1, 0}} {
		if got, ok := impl.OrbitOf(p, s); !ok || !slices.Equal(got, orbit) {
			t.Errorf("OrbitOf(%d) = %v, %v", s, got, ok)
		}
		for name, call := range map[string]func() (int, bool){
			"OrbitSum":     func() (int, bool) { return impl.OrbitSum(p, s) },
			"AntichainSum": func() (int, bool) { return impl.AntichainSum(p, s) },
			"ElementSum":   func() (int, bool) { return impl.ElementSum(p, s, 0) },
		} {
			if got, ok := call(); !ok || got != 1 {
				t.Errorf("%s of %d = %d, %v", name, s, got, ok)
			}
		}
		if got, ok := impl.FileSums(1, 1, s); !ok || !slices.Equal(got, []int{1}) {
			t.Errorf("FileSums(1, 1, %d) = %v, %v", s, got, ok)
		}
	}
	for k, want := range []int{2, 0, 2, 0} {
		if got, ok := impl.FixedIdeals(p, k); !ok || got != want {
			t.Errorf("FixedIdeals(%d) = %d, %v", k, got, ok)
		}
	}
}

func TestNoPosetsWithOrbits(t *testing.T) {
	for _, p := range badPosets() {
		for _, s := range []int{0, 1, 3, -1, math.MaxInt} {
			checkNoOrbit(t, p, s)
			checkFails(t, p, "SizeOf", func() (bool, bool) { x, ok := impl.SizeOf(p, s); return x == 0, ok })
			checkFails(t, p, "FixedIdeals", func() (bool, bool) { x, ok := impl.FixedIdeals(p, s); return x == 0, ok })
		}
		checkFails(t, p, "AllOrbits", func() (bool, bool) { x, ok := impl.AllOrbits(p); return x == nil, ok })
		checkFails(t, p, "OrbitLengths", func() (bool, bool) { x, ok := impl.OrbitLengths(p); return x == nil, ok })
		checkFails(t, p, "OrderOfRow", func() (bool, bool) { x, ok := impl.OrderOfRow(p); return x == 0, ok })
		checkFails(t, p, "SizeIsEven", func() (bool, bool) { x, ok := impl.SizeIsEven(p); return !x, ok })
		checkFails(t, p, "AntichainIsEven", func() (bool, bool) { x, ok := impl.AntichainIsEven(p); return !x, ok })
		checkFails(t, p, "MeanOfIdeals", func() (bool, bool) { x, y, ok := impl.MeanOfIdeals(p); return x == 0 && y == 0, ok })
	}
}

func checkNoOrbit(t *testing.T, p impl.Poset, s int) {
	t.Helper()
	checkFails(t, p, "OrbitOf", func() (bool, bool) { x, ok := impl.OrbitOf(p, s); return x == nil, ok })
	checkFails(t, p, "OrbitSum", func() (bool, bool) { x, ok := impl.OrbitSum(p, s); return x == 0, ok })
	checkFails(t, p, "AntichainSum", func() (bool, bool) { x, ok := impl.AntichainSum(p, s); return x == 0, ok })
	checkFails(t, p, "ElementSum", func() (bool, bool) { x, ok := impl.ElementSum(p, s, 0); return x == 0, ok })
}

func TestNoIdealsWithOrbits(t *testing.T) {
	for _, p := range append(everyPoset(4), largePosets()...) {
		r := relationOf(p.Less)
		for s := range power(len(r)) {
			if !r.isIdeal(s) {
				checkNoOrbit(t, p, s)
			}
		}
		for _, s := range notSetsOf(len(r)) {
			checkNoOrbit(t, p, s)
			checkFails(t, p, "SizeOf", func() (bool, bool) { x, ok := impl.SizeOf(p, s); return x == 0, ok })
		}
		for _, e := range []int{-1, len(r), len(r) + 1, 63, 64, 65, -64, 1 << 32, math.MaxInt, math.MinInt} {
			checkFails(t, p, "ElementSum", func() (bool, bool) { x, ok := impl.ElementSum(p, 0, e); return x == 0, ok })
		}
	}
	for _, sides := range smallSides() {
		p, _ := impl.Rectangle(sides[0], sides[1])
		r := relationOf(p.Less)
		for s := range power(len(r)) {
			if !r.isIdeal(s) {
				checkSidesFail(t, sides[0], sides[1], s)
			}
		}
		for _, s := range notSetsOf(len(r)) {
			checkSidesFail(t, sides[0], sides[1], s)
		}
	}
}
