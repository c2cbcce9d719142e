package tests

import (
	"math"
	"slices"
	"testing"

	"loop.example/g01138/impl"
)

func checkAnswer(t *testing.T, name string, want bool) func(got, ok bool) {
	return func(got, ok bool) {
		t.Helper()
		if !ok || got != want {
			t.Errorf("%s = %v, %v, not %v", name, got, ok, want)
		}
	}
}

func checkNoAnswer(t *testing.T, name string) func(got, ok bool) {
	return func(got, ok bool) {
		t.Helper()
		if ok || got {
			t.Errorf("%s = %v, %v", name, got, ok)
		}
	}
}

func TestChapter6Example(t *testing.T) {
	p := mustParse(t, "2:0<1")
	for rank, f := range [][]int{{0, 0}, {0, 1}, {1, 1}} {
		checkAnswer(t, "AreLabels", true)(impl.AreLabels(p, f, 1))
		checkAnswer(t, "AreStrict", rank == 1)(impl.AreStrict(p, f, 1))
		checkList(t, "LabelsWith", f)(impl.LabelsWith(p, 1, rank))
	}
	checkNumber(t, "CountLabels", 3)(impl.CountLabels(p, 1))
	checkNumber(t, "CountStrict", 1)(impl.CountStrict(p, 1))
	checkList(t, "StepCounts", []int{0, 1})(impl.StepCounts(p))
	checkNumber(t, "LabelPolynomialAt", 1)(impl.LabelPolynomialAt(p, 2))
	checkNumber(t, "LabelPolynomialAt", 3)(impl.LabelPolynomialAt(p, -2))
	checkNumber(t, "BoxCount", 20)(impl.BoxCount(2, 2, 2))
}

func TestLimitsOfChapter6(t *testing.T) {
	if impl.MaxBound != 12 || impl.MaxLabels != 1000 {
		t.Errorf("MaxBound = %d, MaxLabels = %d", impl.MaxBound, impl.MaxLabels)
	}
}

// TestLabelsOfSmallPosets has all labels of all posets of up to 4 elements, for small bounds and those at the limit.
func TestLabelsOfSmallPosets(t *testing.T) {
	for _, p := range smallPosets(4) {
		for m := 0; m <= 12; m++ {
			if len(p.Less) > 2 && m > 3 && m < 12 {
				continue
			}
			checkLabels(t, p, m)
		}
	}
	for _, p := range everyPoset(5) {
		checkLabels(t, p, 1)
	}
	checkLabels(t, pentagon(), 4)
	checkLabels(t, chainOf(10), 0)
	checkLabels(t, chainOf(10), 3)
	checkLabels(t, antichainOf(10), 1)
}

func checkLabels(t *testing.T, p impl.Poset, m int) {
	t.Helper()
	r := relationOf(p.Less)
	all, strict := r.labels(m, false), r.labels(m, true)
	checkNumber(t, "CountLabels", len(all))(impl.CountLabels(p, m))
	checkNumber(t, "CountStrict", len(strict))(impl.CountStrict(p, m))
	checkList(t, "LabelsBySum", sumsOf(all, m*len(p.Less)))(impl.LabelsBySum(p, m))
	for rank, f := range all {
		checkAnswer(t, "AreLabels", true)(impl.AreLabels(p, f, m))
		checkAnswer(t, "AreStrict", r.rises(f, true))(impl.AreStrict(p, f, m))
		checkList(t, "IdealsOfLabels", idealsIn(f, m))(impl.IdealsOfLabels(p, f, m))
		// All ranks, if they are few.
		if len(all) > 1000 && rank > 10 {
			continue
		}
		with, hasRank := impl.LabelsWith(p, m, rank)
		got, isRanked := impl.RankLabels(p, f, m)
		if len(all) > 1000 {
			checkNoList(t, "LabelsWith")(with, hasRank)
			checkNoNumber(t, "RankLabels")(got, isRanked)
		} else {
			checkList(t, "LabelsWith", f)(with, hasRank)
			checkNumber(t, "RankLabels", rank)(got, isRanked)
		}
	}
	checkNoLabelRanks(t, p, m, len(all))
}

// checkNoLabelRanks asks for ranks behind the last one and before the first one.
func checkNoLabelRanks(t *testing.T, p impl.Poset, m, count int) {
	t.Helper()
	for _, rank := range []int{-1, -2, -count, -count - 1, count, count + 1, 2 * count, 1000, 1001, 1 << 32, -1 << 32, math.MaxInt, math.MinInt} {
		if rank < 0 || rank >= count {
			checkNoList(t, "LabelsWith")(impl.LabelsWith(p, m, rank))
		}
	}
}

// TestListsThatAreNoLabels tries all lists of up to 4 numbers in -1..m + 1 for up to 3 elements.
func TestListsThatAreNoLabels(t *testing.T) {
	for _, p := range smallPosets(3) {
		for m := 0; m <= 3; m++ {
			for length := 0; length <= len(p.Less)+1; length++ {
				eachList(length, -1, m+1, func(list []int) { checkAsLabels(t, p, list, m) })
			}
		}
	}
}

// checkAsLabels gives any list: if it is no labels, all functions that require them fail.
func checkAsLabels(t *testing.T, p impl.Poset, list []int, m int) {
	t.Helper()
	r := relationOf(p.Less)
	want := r.isLabels(list, m, false)
	checkAnswer(t, "AreLabels", want)(impl.AreLabels(p, list, m))
	checkAnswer(t, "AreStrict", r.isLabels(list, m, true))(impl.AreStrict(p, list, m))
	if !want {
		checkNoLabels(t, p, list, m)
		return
	}
	checkList(t, "IdealsOfLabels", idealsIn(list, m))(impl.IdealsOfLabels(p, list, m))
	checkList(t, "ComplementLabels", complementOf(list, m))(impl.ComplementLabels(p, list, m))
}

func checkNoLabels(t *testing.T, p impl.Poset, list []int, m int) {
	t.Helper()
	checkNoNumber(t, "RankLabels")(impl.RankLabels(p, list, m))
	checkNoList(t, "IdealsOfLabels")(impl.IdealsOfLabels(p, list, m))
	checkNoList(t, "ComplementLabels")(impl.ComplementLabels(p, list, m))
}

// TestListsThatAreNearlyLabels changes a number of labels of large posets, or the length.
func TestListsThatAreNearlyLabels(t *testing.T) {
	for _, p := range append(largePosets(), antichainOf(1), chainOf(9)) {
		n := len(p.Less)
		heights := make([]int, n)
		for e := range heights {
			heights[e] = relationOf(p.Less).height(e)
		}
		for _, m := range []int{9, 10, 11, 12} {
			for _, f := range [][]int{heights, make([]int, n), slices.Repeat([]int{m}, n), complementOf(heights, m)} {
				checkAsLabels(t, p, f, m)
				checkAsLabels(t, p, f, m-1)
				for k := range f {
					checkAsLabels(t, p, f[:k], m)
					checkAsLabels(t, p, append(slices.Clone(f), f[k]), m)
					for _, label := range []int{-1, 0, f[k] - 1, f[k] + 1, m - 1, m, m + 1, 13, 64, 1 << 32, -1 << 32, math.MaxInt, math.MinInt} {
						changed := slices.Clone(f)
						changed[k] = label
						checkAsLabels(t, p, changed, m)
					}
				}
			}
			for _, length := range []int{0, 100, 1001, 100001} {
				checkAsLabels(t, p, make([]int, length), m)
			}
		}
	}
}

// TestKnownLabels has chains and antichains, whose labels are counted by choices and powers.
func TestKnownLabels(t *testing.T) {
	for n := 1; n <= 10; n++ {
		chain, antichain := chainOf(n), antichainOf(n)
		ofChain, steps := make([]int, n), make([]int, n)
		for k := 1; k <= n; k++ {
			// Lists onto k numbers: all lists, less those that leave numbers out.
			for left := 0; left <= k; left++ {
				lists := choose(k, left)
				for range n {
					lists *= k - left
				}
				if left%2 == 1 {
					lists = -lists
				}
				steps[k-1] += lists
			}
		}
		ofChain[n-1] = 1
		checkList(t, "StepCounts of a chain", ofChain)(impl.StepCounts(chain))
		checkList(t, "StepCounts without relations", steps)(impl.StepCounts(antichain))
		for m := 0; m <= 12; m++ {
			all := 1
			for range n {
				all *= m + 1
			}
			checkNumber(t, "CountLabels of a chain", choose(m+n, n))(impl.CountLabels(chain, m))
			checkNumber(t, "CountStrict of a chain", choose(m+1, n))(impl.CountStrict(chain, m))
			checkNumber(t, "CountLabels without relations", all)(impl.CountLabels(antichain, m))
			checkNumber(t, "CountStrict without relations", all)(impl.CountStrict(antichain, m))
		}
		for x := -13; x <= 13; x++ {
			all := 1
			for range n {
				all *= x
			}
			checkNumber(t, "LabelPolynomialAt of a chain", choose(x, n))(impl.LabelPolynomialAt(chain, x))
			checkNumber(t, "LabelPolynomialAt without relations", all)(impl.LabelPolynomialAt(antichain, x))
		}
	}
	checkNumber(t, "CountLabels", 137858491849)(impl.CountLabels(antichainOf(10), 12))
	checkNumber(t, "CountStrict", 286)(impl.CountStrict(chainOf(10), 12))
	checkNumber(t, "CountStrict", 1)(impl.CountStrict(chainOf(10), 9))
	checkNumber(t, "CountStrict", 0)(impl.CountStrict(chainOf(10), 8))
	checkList(t, "StepCounts", []int{0, 1, 2})(impl.StepCounts(mustParse(t, "3:0<1,0<2")))
	checkList(t, "StepCounts", []int{0, 0, 1, 2})(impl.StepCounts(mustParse(t, "4:0<1,0<2,1<3,2<3")))
}

// TestCountsByLinearExtensions has posets of up to 10 elements, whose labels are counted along linear extensions.
func TestCountsByLinearExtensions(t *testing.T) {
	for _, p := range append(linearPosets(), largePosets()[2:]...) {
		n := len(p.Less)
		falls := relationOf(p.Less).fallsOf()
		for m := 0; m <= 12; m++ {
			checkNumber(t, "CountLabels", labelsByLines(falls, n, m))(impl.CountLabels(p, m))
			checkNumber(t, "CountStrict", strictByLines(falls, n, m))(impl.CountStrict(p, m))
		}
		steps, ok := impl.StepCounts(p)
		checkList(t, "StepCounts", stepsByLines(falls, n))(steps, ok)
		checkNumber(t, "CountLinear", steps[n-1])(impl.CountLinear(p))
		checkPolynomial(t, p, steps)
	}
}

func TestSteps(t *testing.T) {
	for _, p := range smallPosets(5) {
		checkList(t, "StepCounts", relationOf(p.Less).steps())(impl.StepCounts(p))
	}
	for _, p := range append(smallPosets(4), largePosets()...) {
		steps, ok := impl.StepCounts(p)
		// What is turned round has the same steps.
		q, _ := impl.DualOf(p)
		checkList(t, "StepCounts of the dual", steps)(impl.StepCounts(q))
		if !ok || len(steps) != len(p.Less) {
			t.Errorf("StepCounts(%v) = %v, %v", p, steps, ok)
		}
		checkPolynomial(t, p, steps)
	}
}

// checkPolynomial compares the polynomial with the sum in the document and with counts of labels, on both sides.
func checkPolynomial(t *testing.T, p impl.Poset, steps []int) {
	t.Helper()
	for x := -13; x <= 13; x++ {
		checkNumber(t, "LabelPolynomialAt", polynomialOf(steps, x))(impl.LabelPolynomialAt(p, x))
	}
	for m := 1; m <= 13; m++ {
		strict, _ := impl.CountStrict(p, m-1)
		checkNumber(t, "LabelPolynomialAt", strict)(impl.LabelPolynomialAt(p, m))
		all, _ := impl.CountLabels(p, m-1)
		if len(p.Less)%2 == 1 {
			all = -all
		}
		checkNumber(t, "LabelPolynomialAt", all)(impl.LabelPolynomialAt(p, -m))
	}
	checkNumber(t, "LabelPolynomialAt", 0)(impl.LabelPolynomialAt(p, 0))
	for _, x := range []int{-15, -14, 14, 15, 100, -100, 1 << 32, -1 << 32, math.MaxInt, math.MinInt} {
		checkNoNumber(t, "LabelPolynomialAt")(impl.LabelPolynomialAt(p, x))
	}
}

func TestKnownPolynomials(t *testing.T) {
	// For two elements below a third one these are sums of squares.
	for x, want := range map[int]int{-13: -819, -12: -650, -3: -14, -2: -5, -1: -1, 0: 0, 1: 0, 2: 1, 3: 5, 4: 14, 12: 506, 13: 650} {
		checkNumber(t, "LabelPolynomialAt", want)(impl.LabelPolynomialAt(mustParse(t, "3:0<2,1<2"), x))
	}
	for x, want := range map[int]int{-13: 3185, -12: 2366, -3: 20, -2: 6, -1: 1, 0: 0, 1: 0, 2: 0, 3: 1, 4: 6, 5: 20, 12: 1210, 13: 1716} {
		checkNumber(t, "LabelPolynomialAt", want)(impl.LabelPolynomialAt(mustParse(t, "4:0<1,0<2,1<3,2<3"), x))
	}
	// Two elements of which none is less than the other one: the squares, without a minus.
	for x, want := range map[int]int{-13: 169, -1: 1, 0: 0, 1: 1, 13: 169} {
		checkNumber(t, "LabelPolynomialAt", want)(impl.LabelPolynomialAt(antichainOf(2), x))
	}
}

// TestMaxLabels has posets with just MaxLabels labels for a bound, with some less, and with more.
func TestMaxLabels(t *testing.T) {
	for _, c := range []struct {
		text  string
		m     int
		count int
	}{
		{"9:0<1,0<2,1<4,1<5,2<3,3<6,4<6,5<8,6<7,7<8", 3, 998},
		{"9:1<3,2<6,3<5,3<6,5<7,6<8", 2, 999},
		{"3:-", 9, 1000},
		{"6:0<4,1<4,2<5,3<4", 3, 1000},
		{"6:0<1,2<3,4<5", 3, 1000},
		{"4:0<1,1<2,2<3", 10, 1001},
		{"6:0<3,1<4,2<3,2<4,3<5,4<5", 4, 1001},
		{"7:0<2,1<2,2<4,3<4,4<5,5<6", 4, 1002},
		{"10:0<4,1<4,1<9,2<4,2<7,3<4,3<5,4<8,5<6,5<9,6<7,6<8", 2, 1002},
		{"10:-", 1, 1024},
	} {
		p := mustParse(t, c.text)
		all := relationOf(p.Less).labels(c.m, false)
		if len(all) != c.count {
			t.Errorf("%s has %d labels for %d", c.text, len(all), c.m)
		}
		for rank, f := range all {
			got, ok := impl.LabelsWith(p, c.m, rank)
			back, isRanked := impl.RankLabels(p, f, c.m)
			if c.count > 1000 {
				checkNoList(t, "LabelsWith")(got, ok)
				checkNoNumber(t, "RankLabels")(back, isRanked)
			} else {
				checkList(t, "LabelsWith", f)(got, ok)
				checkNumber(t, "RankLabels", rank)(back, isRanked)
			}
		}
		checkNoLabelRanks(t, p, c.m, c.count)
		checkLimits(t, p, c.m, all)
	}
	// Many more.
	for _, p := range []impl.Poset{antichainOf(10), largePosets()[2]} {
		for m := 2; m <= 12; m++ {
			checkNoList(t, "LabelsWith")(impl.LabelsWith(p, m, 0))
			checkNoNumber(t, "RankLabels")(impl.RankLabels(p, make([]int, 10), m))
		}
	}
	checkNoList(t, "LabelsWith")(impl.LabelsWith(chainOf(10), 12, 0))
	checkNoNumber(t, "RankLabels")(impl.RankLabels(chainOf(10), make([]int, 10), 12))
	// Few labels for a large bound, and for a bound of 0.
	checkList(t, "LabelsWith", []int{12})(impl.LabelsWith(antichainOf(1), 12, 12))
	checkList(t, "LabelsWith", []int{4, 12, 12})(impl.LabelsWith(chainOf(3), 12, 334))
	checkNumber(t, "RankLabels", 334)(impl.RankLabels(chainOf(3), []int{4, 12, 12}, 12))
	checkList(t, "LabelsWith", make([]int, 10))(impl.LabelsWith(antichainOf(10), 0, 0))
	checkNumber(t, "RankLabels", 0)(impl.RankLabels(antichainOf(10), make([]int, 10), 0))
}

// checkLimits asks for what is told of labels however many there are.
func checkLimits(t *testing.T, p impl.Poset, m int, all [][]int) {
	t.Helper()
	checkNumber(t, "CountLabels", len(all))(impl.CountLabels(p, m))
	checkList(t, "LabelsBySum", sumsOf(all, m*len(p.Less)))(impl.LabelsBySum(p, m))
	for _, f := range all {
		ideals, ok := impl.IdealsOfLabels(p, f, m)
		checkList(t, "IdealsOfLabels", idealsIn(f, m))(ideals, ok)
		checkList(t, "LabelsOfIdeals", f)(impl.LabelsOfIdeals(p, ideals))
	}
}

// TestManySums has posets with just 100000 labels for a bound, with some less, and with more.
func TestManySums(t *testing.T) {
	for _, c := range []struct {
		text  string
		m     int
		count int
	}{
		{"8:0<1,1<5,1<6,2<3,2<4,5<7,6<7", 6, 99960},
		{"10:0<7,1<9,2<6,3<4,3<5,3<6,5<8,6<8,7<8,8<9", 4, 99999},
		{"5:-", 9, 100000},
		{"10:0<3,0<4,1<2,2<5,2<6,3<5,3<6,4<6,4<7,5<7,6<9,7<8,8<9", 6, 100001},
		{"10:0<4,1<7,1<8,2<6,2<7,3<5,4<5,5<6,6<8,8<9", 5, 100012},
		{"6:0<2,1<3,1<4,2<3,2<4,3<5", 12, 100100},
		{"5:-", 10, 161051},
	} {
		p := mustParse(t, c.text)
		checkNumber(t, "CountLabels", c.count)(impl.CountLabels(p, c.m))
		got, ok := impl.LabelsBySum(p, c.m)
		if c.count > 100000 {
			checkNoList(t, "LabelsBySum")(got, ok)
			continue
		}
		checkList(t, "LabelsBySum", sumsOf(relationOf(p.Less).labels(c.m, false), c.m*len(p.Less)))(got, ok)
	}
	for m := 3; m <= 12; m++ {
		checkNoList(t, "LabelsBySum")(impl.LabelsBySum(antichainOf(10), m))
	}
	checkNoList(t, "LabelsBySum")(impl.LabelsBySum(chainOf(10), 12))
}

// TestKnownSums has antichains, whose sums are those of lists, and chains, whose sums are those of boxes.
func TestKnownSums(t *testing.T) {
	for n := 1; n <= 10; n++ {
		for m := 0; m <= 12; m++ {
			lists, count := []int{1}, 1
			for range n {
				lists = multiplied(lists, slices.Repeat([]int{1}, m+1))
				count *= m + 1
			}
			if got, ok := impl.LabelsBySum(antichainOf(n), m); count > 100000 {
				checkNoList(t, "LabelsBySum without relations")(got, ok)
			} else {
				checkList(t, "LabelsBySum without relations", lists)(got, ok)
			}
			got, ok := impl.LabelsBySum(chainOf(n), m)
			if choose(m+n, n) > 100000 {
				checkNoList(t, "LabelsBySum of a chain")(got, ok)
			} else if !ok || !isBoxBySum(got, 1, n, m) {
				t.Errorf("LabelsBySum of a chain of %d for %d = %v, %v", n, m, got, ok)
			}
		}
		// For a bound of 0 all labels are 0.
		checkList(t, "LabelsBySum", []int{1})(impl.LabelsBySum(antichainOf(n), 0))
		checkList(t, "LabelsBySum", []int{1})(impl.LabelsBySum(chainOf(n), 0))
	}
	checkList(t, "LabelsBySum", []int{1, 1, 2, 1, 1})(impl.LabelsBySum(chainOf(2), 2))
	checkList(t, "LabelsBySum", []int{1, 1, 2, 1, 1})(impl.LabelsBySum(mustParse(t, "4:0<1,0<2,1<3,2<3"), 1))
	checkList(t, "LabelsBySum", []int{1, 2, 1, 1})(impl.LabelsBySum(mustParse(t, "3:0<1,0<2"), 1))
	checkList(t, "LabelsBySum", []int{1, 1, 2, 1})(impl.LabelsBySum(mustParse(t, "3:0<2,1<2"), 1))
}

func TestBoxes(t *testing.T) {
	for _, sides := range allSides() {
		a, b := sides[0], sides[1]
		p, _ := impl.Rectangle(a, b)
		for m := 0; m <= 12; m++ {
			want := boxByDocument(a, b, m)
			count, ok := impl.BoxCount(a, b, m)
			checkNumber(t, "BoxCount", int(want.Num().Int64()))(count, ok && want.IsInt())
			checkNumber(t, "CountLabels of a rectangle", count)(impl.CountLabels(p, m))
			sums, ok := impl.BoxBySum(a, b, m)
			if !ok || len(sums) != m*a*b+1 || !isBoxBySum(sums, a, b, m) {
				t.Errorf("BoxBySum(%d, %d, %d) = %v, %v", a, b, m, sums, ok)
			}
			// It does not matter which of the three sides of a box is which one.
			checkList(t, "BoxBySum turned", sums)(impl.BoxBySum(b, a, m))
			if m >= 1 && a*m <= 10 && b <= 12 {
				checkList(t, "BoxBySum turned", sums)(impl.BoxBySum(a, m, b))
			}
			if got, ok := impl.LabelsBySum(p, m); count > 100000 {
				checkNoList(t, "LabelsBySum")(got, ok)
			} else {
				checkList(t, "LabelsBySum", sums)(got, ok)
			}
			checkNoBox(t, a, b, -1-m)
			checkNoBox(t, a, b, 13+m)
		}
		for _, m := range notBounds() {
			checkNoBox(t, a, b, m)
		}
	}
	for _, sides := range noSides() {
		for _, m := range append(notBounds(), 0, 1, 11, 12) {
			checkNoBox(t, sides[0], sides[1], m)
		}
	}
}

func checkNoBox(t *testing.T, a, b, m int) {
	t.Helper()
	checkNoNumber(t, "BoxCount")(impl.BoxCount(a, b, m))
	checkNoList(t, "BoxBySum")(impl.BoxBySum(a, b, m))
}

func TestKnownBoxes(t *testing.T) {
	for sides, want := range map[[3]int]int{
		{1, 1, 0}: 1, {1, 1, 1}: 2, {1, 1, 12}: 13, {2, 2, 0}: 1, {2, 2, 1}: 6, {2, 2, 2}: 20, {2, 2, 3}: 50, {2, 3, 2}: 50,
		{3, 3, 1}: 20, {3, 3, 2}: 175, {3, 3, 3}: 980, {1, 10, 12}: 646646, {10, 1, 12}: 646646, {2, 5, 1}: 21, {5, 2, 0}: 1, {3, 4, 1}: 0, {1, 11, 1}: 0,
	} {
		if want == 0 {
			checkNoBox(t, sides[0], sides[1], sides[2])
			continue
		}
		checkNumber(t, "BoxCount", want)(impl.BoxCount(sides[0], sides[1], sides[2]))
	}
	checkList(t, "BoxBySum", []int{1, 1, 1})(impl.BoxBySum(1, 2, 1))
	checkList(t, "BoxBySum", []int{1, 1, 2, 1, 1})(impl.BoxBySum(2, 2, 1))
	checkList(t, "BoxBySum", []int{1, 1, 3, 3, 4, 3, 3, 1, 1})(impl.BoxBySum(2, 2, 2))
	checkList(t, "BoxBySum", []int{1})(impl.BoxBySum(2, 5, 0))
	checkList(t, "BoxBySum", slices.Repeat([]int{1}, 13))(impl.BoxBySum(1, 1, 12))
}

// TestChainsOfIdeals tries all lists of up to 3 numbers as ideals of posets of up to 3 elements, and goes on from some.
func TestChainsOfIdeals(t *testing.T) {
	for _, p := range smallPosets(3) {
		n := len(p.Less)
		for length := 0; length <= 3; length++ {
			chains := 0
			eachList(length, -1, power(n), func(list []int) {
				checkIdeals(t, p, list)
				if relationOf(p.Less).isChainOfIdeals(list) {
					chains++
				}
			})
			checkNumber(t, "CountLabels", chains)(impl.CountLabels(p, length))
		}
	}
	for _, p := range append(largePosets(), antichainOf(1), chainOf(4)) {
		r := relationOf(p.Less)
		chain := []int{0}
		for _, e := range r.lastLinear() {
			chain = append(chain, chain[len(chain)-1]+power(e))
		}
		chain = append(chain, slices.Repeat([]int{power(len(r)) - 1}, 13-len(chain))...)
		for length := 0; length <= 13; length++ {
			checkIdeals(t, p, chain[:length])
			checkIdeals(t, p, chain[13-length:])
			checkIdeals(t, p, make([]int, length))
			checkIdeals(t, p, slices.Repeat([]int{power(len(r)) - 1}, length))
		}
		for k := range 12 {
			for _, s := range append(notSetsOf(len(r)), 0, 1, 2, 3, 5, power(len(r))-1, power(len(r))-2) {
				changed := slices.Clone(chain[:12])
				changed[k] = s
				checkIdeals(t, p, changed)
				checkIdeals(t, p, changed[:k+1])
			}
		}
		for _, length := range []int{14, 100, 100000} {
			checkNoList(t, "LabelsOfIdeals")(impl.LabelsOfIdeals(p, make([]int, length)))
		}
	}
}

func checkIdeals(t *testing.T, p impl.Poset, list []int) {
	t.Helper()
	r := relationOf(p.Less)
	f, ok := impl.LabelsOfIdeals(p, list)
	if !r.isChainOfIdeals(list) {
		checkNoList(t, "LabelsOfIdeals")(f, ok)
		return
	}
	checkList(t, "LabelsOfIdeals", r.labelsIn(list))(f, ok)
	checkAnswer(t, "AreLabels", true)(impl.AreLabels(p, f, len(list)))
	checkList(t, "IdealsOfLabels", list)(impl.IdealsOfLabels(p, f, len(list)))
}

func TestIdealsTellLabels(t *testing.T) {
	for _, p := range smallPosets(4) {
		for m := 0; m <= 3; m++ {
			for _, f := range relationOf(p.Less).labels(m, false) {
				ideals, ok := impl.IdealsOfLabels(p, f, m)
				if !ok || len(ideals) != m {
					t.Errorf("IdealsOfLabels(%v, %v, %d) = %v, %v", p, f, m, ideals, ok)
				}
				checkList(t, "LabelsOfIdeals", f)(impl.LabelsOfIdeals(p, ideals))
			}
		}
	}
	p := mustParse(t, "4:0<1,0<2,1<3,2<3")
	f := []int{1, 3, 1, 12}
	ideals := []int{0, 5, 5, 7, 7, 7, 7, 7, 7, 7, 7, 7}
	checkList(t, "IdealsOfLabels", ideals)(impl.IdealsOfLabels(p, f, 12))
	checkList(t, "LabelsOfIdeals", f)(impl.LabelsOfIdeals(p, ideals))
	// The same labels for a bound of one more would have one ideal more, which are too many.
	checkNoList(t, "LabelsOfIdeals")(impl.LabelsOfIdeals(p, append(ideals, 15)))
	checkNoList(t, "IdealsOfLabels")(impl.IdealsOfLabels(p, f, 13))
	checkNoList(t, "IdealsOfLabels")(impl.IdealsOfLabels(p, f, 11))
	checkList(t, "LabelsOfIdeals", []int{0, 0, 0, 0})(impl.LabelsOfIdeals(p, nil))
	checkList(t, "IdealsOfLabels", nil)(impl.IdealsOfLabels(p, []int{0, 0, 0, 0}, 0))
}

func TestComplements(t *testing.T) {
	for _, p := range smallPosets(4) {
		q, _ := impl.DualOf(p)
		for m := 0; m <= 3; m++ {
			for _, f := range relationOf(p.Less).labels(m, false) {
				other, ok := impl.ComplementLabels(p, f, m)
				checkList(t, "ComplementLabels", complementOf(f, m))(other, ok)
				checkAnswer(t, "AreLabels in the dual", true)(impl.AreLabels(q, other, m))
				strict, _ := impl.AreStrict(p, f, m)
				checkAnswer(t, "AreStrict in the dual", strict)(impl.AreStrict(q, other, m))
				checkList(t, "ComplementLabels twice", f)(impl.ComplementLabels(q, other, m))
			}
		}
	}
	checkList(t, "ComplementLabels", []int{0, 9, 11})(impl.ComplementLabels(mustParse(t, "3:0<1,0<2"), []int{1, 3, 12}, 12))
	checkList(t, "ComplementLabels", make([]int, 10))(impl.ComplementLabels(antichainOf(10), make([]int, 10), 0))
}

// TestLabelsOfSums has posets beside each other, whose labels have nothing to do with each other.
func TestLabelsOfSums(t *testing.T) {
	for _, p := range append(smallPosets(3), pentagon()) {
		for _, q := range append(smallPosets(3), pentagon()) {
			both, _ := impl.SumOf(p, q)
			for _, m := range []int{0, 1, 2, 11, 12} {
				one, _ := impl.CountLabels(p, m)
				other, _ := impl.CountLabels(q, m)
				checkNumber(t, "CountLabels", one*other)(impl.CountLabels(both, m))
				one, _ = impl.CountStrict(p, m)
				other, _ = impl.CountStrict(q, m)
				checkNumber(t, "CountStrict", one*other)(impl.CountStrict(both, m))
			}
		}
	}
}

func TestNoBounds(t *testing.T) {
	for _, p := range append(smallPosets(3), largePosets()...) {
		n := len(p.Less)
		for _, m := range notBounds() {
			checkNoBound(t, p, m, make([]int, n))
			checkNoBound(t, p, m, promotionPlaces(n+1))
			checkNoBound(t, p, m, nil)
		}
	}
}

func checkNoBound(t *testing.T, p impl.Poset, m int, list []int) {
	t.Helper()
	checkNoAnswer(t, "AreLabels")(impl.AreLabels(p, list, m))
	checkNoAnswer(t, "AreStrict")(impl.AreStrict(p, list, m))
	checkNoNumber(t, "CountLabels")(impl.CountLabels(p, m))
	checkNoNumber(t, "CountStrict")(impl.CountStrict(p, m))
	checkNoList(t, "LabelsBySum")(impl.LabelsBySum(p, m))
	for _, rank := range []int{0, 1, -1} {
		checkNoList(t, "LabelsWith")(impl.LabelsWith(p, m, rank))
	}
	checkNoLabels(t, p, list, m)
}

func TestNoPosetsWithLabels(t *testing.T) {
	for _, p := range badPosets() {
		for _, list := range [][]int{nil, {}, {0}, {0, 0}, {0, 1}, {0, 1, 2}, make([]int, len(p.Less)), promotionPlaces(len(p.Less) + 1)} {
			for _, m := range append(notBounds(), 0, 1, 11, 12) {
				checkNoBound(t, p, m, list)
			}
			checkNoList(t, "LabelsOfIdeals")(impl.LabelsOfIdeals(p, list))
		}
		checkNoList(t, "StepCounts")(impl.StepCounts(p))
		for _, x := range []int{-14, -13, -1, 0, 1, 2, 13, 14} {
			checkNoNumber(t, "LabelPolynomialAt")(impl.LabelPolynomialAt(p, x))
		}
	}
}

func TestOneElementWithLabels(t *testing.T) {
	p := antichainOf(1)
	checkList(t, "StepCounts", []int{1})(impl.StepCounts(p))
	for x := -13; x <= 13; x++ {
		checkNumber(t, "LabelPolynomialAt", x)(impl.LabelPolynomialAt(p, x))
	}
	for m := 0; m <= 12; m++ {
		checkNumber(t, "CountLabels", m+1)(impl.CountLabels(p, m))
		checkNumber(t, "CountStrict", m+1)(impl.CountStrict(p, m))
		checkNumber(t, "BoxCount", m+1)(impl.BoxCount(1, 1, m))
		checkList(t, "BoxBySum", slices.Repeat([]int{1}, m+1))(impl.BoxBySum(1, 1, m))
		checkList(t, "LabelsBySum", slices.Repeat([]int{1}, m+1))(impl.LabelsBySum(p, m))
		for label := 0; label <= m; label++ {
			f := []int{label}
			checkAnswer(t, "AreLabels", true)(impl.AreLabels(p, f, m))
			checkAnswer(t, "AreStrict", true)(impl.AreStrict(p, f, m))
			checkList(t, "LabelsWith", f)(impl.LabelsWith(p, m, label))
			checkNumber(t, "RankLabels", label)(impl.RankLabels(p, f, m))
			checkList(t, "IdealsOfLabels", append(make([]int, label), slices.Repeat([]int{1}, m-label)...))(impl.IdealsOfLabels(p, f, m))
			checkList(t, "ComplementLabels", []int{m - label})(impl.ComplementLabels(p, f, m))
		}
		checkAsLabels(t, p, []int{m + 1}, m)
		checkAsLabels(t, p, []int{-1}, m)
		checkAsLabels(t, p, nil, m)
		checkNoLabelRanks(t, p, m, m+1)
	}
}
