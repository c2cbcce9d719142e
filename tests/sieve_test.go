package tests

import (
	"math"
	"slices"
	"testing"

	"loop.example/g01138/impl"
)

func TestChapter7Example(t *testing.T) {
	gauss, rests := []int{1, 1, 2, 1, 1}, []int{2, 1, 2, 1}
	checkList(t, "GaussOf", gauss)(impl.GaussOf(2, 2))
	checkList(t, "RemaindersOf", rests)(impl.RemaindersOf(gauss, 4))
	checkList(t, "RowStabilizers", []int{1, 2})(impl.RowStabilizers(2, 2))
	checkList(t, "OrbitsByRests", []int{1, 1, 0})(impl.OrbitsByRests(rests))
	checkAnswer(t, "IsSieved", true)(impl.IsSieved(rests, []int{1, 2}))
	checkNumber(t, "ValueByRemainders", 2)(impl.ValueByRemainders(rests, 2))
	checkNumber(t, "RowFixed", 2)(impl.RowFixed(2, 2, 2))
}

func TestLimitsOfChapter7(t *testing.T) {
	if impl.MaxTurns != 60 {
		t.Errorf("MaxTurns = %d", impl.MaxTurns)
	}
}

func TestGauss(t *testing.T) {
	for _, sides := range allSides() {
		a, b := sides[0], sides[1]
		want := idealsBySize(a, b)
		checkList(t, "GaussOf", want)(impl.GaussOf(a, b))
		checkList(t, "GaussOf turned", want)(impl.GaussOf(b, a))
		if !isQuotient(want, upTo(b+1, a+b), upTo(1, a)) {
			t.Errorf("%v is not the quotient for %d and %d", want, a, b)
		}
		// Labels for a bound of 1 are ideals.
		checkList(t, "BoxBySum", want)(impl.BoxBySum(a, b, 1))
	}
	for n := 1; n <= 10; n++ {
		checkList(t, "GaussOf", slices.Repeat([]int{1}, n+1))(impl.GaussOf(1, n))
		checkList(t, "GaussOf", slices.Repeat([]int{1}, n+1))(impl.GaussOf(n, 1))
	}
	checkList(t, "GaussOf", []int{1, 1, 2, 2, 2, 1, 1})(impl.GaussOf(2, 3))
	checkList(t, "GaussOf", []int{1, 1, 2, 3, 3, 3, 3, 2, 1, 1})(impl.GaussOf(3, 3))
	checkList(t, "GaussOf", []int{1, 1, 2, 2, 3, 3, 3, 2, 2, 1, 1})(impl.GaussOf(5, 2))
}

func TestHookPolynomials(t *testing.T) {
	for _, sides := range allSides() {
		a, b := sides[0], sides[1]
		want := tableauxByMajor(a, b)
		got, ok := impl.HookPolynomial(a, b)
		checkList(t, "HookPolynomial", want)(got, ok)
		checkList(t, "HookPolynomial turned", want)(impl.HookPolynomial(b, a))
		if !isQuotient(want, upTo(1, a*b), hooksOf(a, b)) {
			t.Errorf("%v is not the quotient for %d and %d", want, a, b)
		}
		checkList(t, "MajorTable", append(make([]int, a*(a-1)/2*b), got...))(impl.MajorTable(a, b))
	}
	for n := 1; n <= 10; n++ {
		checkList(t, "HookPolynomial of a row", []int{1})(impl.HookPolynomial(1, n))
		checkList(t, "HookPolynomial of a column", []int{1})(impl.HookPolynomial(n, 1))
	}
	checkList(t, "HookPolynomial", []int{1, 0, 1})(impl.HookPolynomial(2, 2))
	checkList(t, "HookPolynomial", []int{1, 0, 1, 1, 1, 0, 1})(impl.HookPolynomial(2, 3))
	checkList(t, "HookPolynomial", []int{1, 0, 1, 1, 2, 1, 2, 1, 2, 1, 1, 0, 1})(impl.HookPolynomial(4, 2))
}

func TestSidesThatHaveNoTurn(t *testing.T) {
	for _, sides := range noSides() {
		a, b := sides[0], sides[1]
		checkNoList(t, "GaussOf")(impl.GaussOf(a, b))
		checkNoList(t, "HookPolynomial")(impl.HookPolynomial(a, b))
		checkNoList(t, "RowStabilizers")(impl.RowStabilizers(a, b))
		checkNoList(t, "PromotionStabilizers")(impl.PromotionStabilizers(a, b))
		for _, d := range append(notSteps(), 0, 1, 2, 59, 60) {
			checkNoNumber(t, "RowFixed")(impl.RowFixed(a, b, d))
			checkNoNumber(t, "PromotionFixed")(impl.PromotionFixed(a, b, d))
		}
	}
}

func TestRemaindersOf(t *testing.T) {
	for length := 1; length <= 3; length++ {
		eachList(length, 0, 3, func(list []int) {
			for n := 1; n <= 5; n++ {
				checkList(t, "RemaindersOf", restsOf(list, n))(impl.RemaindersOf(list, n))
			}
		})
	}
	for _, length := range []int{1, 2, 59, 60, 61, 99, 100} {
		squares := make([]int, length)
		for i := range squares {
			squares[i] = (i + 1) * (i + 1)
		}
		for _, list := range [][]int{squares, upTo(1, length), make([]int, length), slices.Repeat([]int{1_000_000}, length)} {
			for n := 1; n <= 60; n++ {
				checkList(t, "RemaindersOf", restsOf(list, n))(impl.RemaindersOf(list, n))
			}
		}
	}
}

func TestKnownRemainders(t *testing.T) {
	checkList(t, "RemaindersOf", []int{7})(impl.RemaindersOf([]int{1, 2, 0, 4}, 1))
	checkList(t, "RemaindersOf", []int{1, 6})(impl.RemaindersOf([]int{1, 2, 0, 4}, 2))
	checkList(t, "RemaindersOf", []int{5, 2, 0})(impl.RemaindersOf([]int{1, 2, 0, 4}, 3))
	checkList(t, "RemaindersOf", []int{1, 2, 0, 4})(impl.RemaindersOf([]int{1, 2, 0, 4}, 4))
	// Remainders that no index leaves are 0.
	checkList(t, "RemaindersOf", []int{1, 2, 0, 4, 0})(impl.RemaindersOf([]int{1, 2, 0, 4}, 5))
	checkList(t, "RemaindersOf", make([]int, 60))(impl.RemaindersOf([]int{0}, 60))
	checkList(t, "RemaindersOf", append([]int{1_000_000}, make([]int, 59)...))(impl.RemaindersOf([]int{1_000_000}, 60))
	checkList(t, "RemaindersOf", []int{100_000_000})(impl.RemaindersOf(slices.Repeat([]int{1_000_000}, 100), 1))
	checkList(t, "RemaindersOf", append(slices.Repeat([]int{2_000_000}, 40), slices.Repeat([]int{1_000_000}, 20)...))(impl.RemaindersOf(slices.Repeat([]int{1_000_000}, 100), 60))
}

func TestListsThatAreNoCoefficients(t *testing.T) {
	for _, n := range []int{1, 2, 60} {
		for _, length := range []int{0, 101, 102, 1000, 100_000} {
			checkNoList(t, "RemaindersOf")(impl.RemaindersOf(make([]int, length), n))
		}
		checkNoList(t, "RemaindersOf")(impl.RemaindersOf(nil, n))
		for _, coefficient := range []int{-1, -2, -1_000_000, 1_000_001, 2_000_000, 1 << 32, -1 << 32, 1 << 62, math.MaxInt, math.MinInt} {
			for _, length := range []int{1, 2, 61, 100} {
				for _, i := range []int{0, length / 2, length - 1} {
					list := upTo(1, length)
					list[i] = coefficient
					checkNoList(t, "RemaindersOf")(impl.RemaindersOf(list, n))
				}
			}
		}
	}
	for _, n := range notTurns() {
		for _, list := range [][]int{nil, {0}, {1, 1, 2, 1, 1}, make([]int, 100), make([]int, 101), {-1}, {1_000_001}} {
			checkNoList(t, "RemaindersOf")(impl.RemaindersOf(list, n))
		}
	}
}

func TestRootSum(t *testing.T) {
	for m := 1; m <= 60; m++ {
		for d := 0; d <= 60; d++ {
			want, isWhole := rootSumOf(m, d)
			if !isWhole || want != rootSumByDocument(m, d) {
				t.Errorf("the roots for %d and %d have the sum %d", m, d, want)
			}
			checkNumber(t, "RootSum", want)(impl.RootSum(m, d))
		}
	}
}

func TestKnownRootSums(t *testing.T) {
	for pair, want := range map[[2]int]int{
		{1, 0}: 1, {1, 1}: 1, {1, 60}: 1, {2, 0}: 1, {2, 1}: -1, {2, 60}: 1, {3, 1}: -1, {3, 3}: 2, {4, 0}: 2, {4, 1}: 0, {4, 2}: -2, {4, 4}: 2, {4, 6}: -2,
		{6, 0}: 2, {6, 1}: 1, {6, 2}: -1, {6, 3}: -2, {6, 6}: 2, {8, 4}: -4, {9, 3}: -3, {12, 2}: 2, {12, 4}: -2, {12, 6}: -4, {30, 1}: -1, {30, 30}: 8, {60, 0}: 16, {60, 60}: 16, {60, 2}: -2, {60, 30}: -16, {59, 0}: 58, {59, 60}: -1, {59, 59}: 58,
	} {
		checkNumber(t, "RootSum", want)(impl.RootSum(pair[0], pair[1]))
	}
}

func TestNoRootSums(t *testing.T) {
	for _, m := range notTurns() {
		for _, d := range append(notSteps(), 0, 1, 2, 60) {
			checkNoNumber(t, "RootSum")(impl.RootSum(m, d))
		}
	}
	for _, d := range notSteps() {
		for m := 1; m <= 60; m++ {
			checkNoNumber(t, "RootSum")(impl.RootSum(m, d))
		}
	}
}

// alikeLists are remainders of each number that are equal for equal greatest common divisors.
func alikeLists() [][]int {
	var lists [][]int
	for n := 1; n <= 60; n++ {
		for _, number := range []func(g int) int{
			func(g int) int { return g },
			func(g int) int { return g * g % 7 },
			func(g int) int { return 60 - g },
			func(int) int { return 0 },
			func(int) int { return 100_000_000 },
			func(g int) int { return g % 2 * 100_000_000 },
			func(g int) int { return g / n },
			func(g int) int { return 1 / g },
		} {
			lists = append(lists, alikeBy(n, number))
		}
	}
	return lists
}

func TestValueByRemainders(t *testing.T) {
	for _, rests := range alikeLists() {
		for d := 0; d <= 60; d++ {
			checkValue(t, rests, d)
		}
		for _, d := range notSteps() {
			checkNoNumber(t, "ValueByRemainders")(impl.ValueByRemainders(rests, d))
		}
	}
}

func checkValue(t *testing.T, rests []int, d int) {
	t.Helper()
	want, isWhole := valueOf(rests, d)
	if !isWhole {
		t.Errorf("%v has no whole value for %d", rests, d)
	}
	checkNumber(t, "ValueByRemainders", want)(impl.ValueByRemainders(rests, d))
}

func TestKnownValues(t *testing.T) {
	for _, c := range []struct {
		rests  []int
		values []int
	}{
		{[]int{5}, []int{5, 5, 5}},
		{[]int{0}, []int{0, 0}},
		{[]int{100_000_000}, []int{100_000_000}},
		{[]int{3, 1}, []int{4, 2, 4, 2}},
		// Values may be less than 0, though remainders are not.
		{[]int{0, 1}, []int{1, -1, 1}},
		{[]int{0, 100_000_000}, []int{100_000_000, -100_000_000}},
		{[]int{2, 1, 2, 1}, []int{6, 0, 2, 0, 6}},
		{[]int{0, 0, 1, 0}, []int{1, -1, 1, -1}},
		{[]int{0, 1, 0, 1}, []int{2, 0, -2, 0, 2}},
		{[]int{4, 3, 3, 4, 3, 3}, []int{20, 0, 2, 0, 2, 0, 20}},
	} {
		for d, want := range c.values {
			checkNumber(t, "ValueByRemainders", want)(impl.ValueByRemainders(c.rests, d))
		}
	}
	checkNumber(t, "ValueByRemainders", 6_000_000_000)(impl.ValueByRemainders(slices.Repeat([]int{100_000_000}, 60), 60))
	checkNumber(t, "ValueByRemainders", 0)(impl.ValueByRemainders(slices.Repeat([]int{100_000_000}, 60), 59))
}

// TestSmallRemainders tries all lists of up to 6 numbers, most of which are not equal where they should be for a value.
func TestSmallRemainders(t *testing.T) {
	alike, negative := 0, 0
	for length := range 7 {
		eachList(length, -1, max(2, 5-length), func(list []int) {
			checkRemainders(t, list)
			if areRemainders(list) && areAlike(list) {
				alike++
			}
			if _, ok := orbitsBy(slices.Concat(list, []int{0})); !ok {
				negative++
			}
		})
	}
	if alike == 0 || negative == 0 {
		t.Errorf("%d lists are alike, %d have orbits less than 0", alike, negative)
	}
}

// checkRemainders gives any list as remainders.
func checkRemainders(t *testing.T, list []int) {
	t.Helper()
	isValid := areRemainders(list)
	for _, d := range []int{0, 1, 2, 3, 6, 60, 61, -1} {
		if isValid && d >= 0 && d <= 60 && areAlike(list) {
			checkValue(t, list, d)
		} else {
			checkNoNumber(t, "ValueByRemainders")(impl.ValueByRemainders(list, d))
		}
	}
	orbits, ok := impl.OrbitsByRests(list)
	if !isValid {
		checkNoList(t, "OrbitsByRests")(orbits, ok)
		checkNoAnswer(t, "IsSieved")(impl.IsSieved(list, nil))
		checkNoAnswer(t, "IsSieved")(impl.IsSieved(list, []int{1, 2, 60}))
		return
	}
	if want, areThere := orbitsBy(list); areThere {
		checkList(t, "OrbitsByRests", want)(orbits, ok)
	} else {
		checkNoList(t, "OrbitsByRests")(orbits, ok)
	}
	checkSieved(t, list, nil)
	checkSieved(t, list, []int{1, 2})
}

// TestRemaindersThatAreNotAlike changes one remainder, and then that with n less its index, too.
func TestRemaindersThatAreNotAlike(t *testing.T) {
	for _, n := range []int{1, 2, 3, 4, 5, 6, 8, 9, 12, 30, 36, 49, 58, 59, 60} {
		rests := alikeBy(n, func(g int) int { return 3 * g })
		for r := range rests {
			changed := slices.Clone(rests)
			changed[r]++
			checkRemainders(t, changed)
			changed[(n-r)%n] = changed[r]
			checkRemainders(t, changed)
		}
	}
	// Equal for r and n - r alone.
	checkNoNumber(t, "ValueByRemainders")(impl.ValueByRemainders([]int{0, 1, 2, 2, 1}, 0))
	checkNoNumber(t, "ValueByRemainders")(impl.ValueByRemainders([]int{2, 1, 2, 2}, 2))
	checkNumber(t, "ValueByRemainders", 6)(impl.ValueByRemainders([]int{2, 1, 1, 1, 1}, 0))
	// The number of orbits asks for the remainders at divisors alone.
	checkList(t, "OrbitsByRests", []int{1, 1, 0})(impl.OrbitsByRests([]int{2, 1, 2, 77}))
	checkList(t, "OrbitsByRests", []int{2, 1})(impl.OrbitsByRests([]int{3, 2, 0, 0, 9}))
	checkAnswer(t, "IsSieved", false)(impl.IsSieved([]int{2, 1, 2, 77}, []int{1, 2}))
}

// TestRemaindersAtTheirLimits has numbers at both ends of their range and beside them, at all places.
func TestRemaindersAtTheirLimits(t *testing.T) {
	for _, n := range []int{1, 2, 3, 59, 60} {
		for r := range n {
			for _, rest := range []int{0, 1, 99_999_999, 100_000_000, -1, -2, -100_000_000, 100_000_001, 100_000_002, 1 << 32, -1 << 32, 1 << 62, math.MaxInt, math.MinInt} {
				for _, other := range []int{0, 5, 100_000_000} {
					list := slices.Repeat([]int{other}, n)
					list[r] = rest
					checkRemainders(t, list)
				}
			}
		}
	}
	for _, length := range []int{0, 61, 62, 100, 120, 100_000} {
		checkRemainders(t, make([]int, length))
		checkRemainders(t, slices.Repeat([]int{1}, length))
	}
	checkRemainders(t, nil)
}

func TestFixedByRowmotion(t *testing.T) {
	for _, sides := range allSides() {
		a, b := sides[0], sides[1]
		next := rectangleOrder(a, b).rows()
		for d := 0; d <= 60; d++ {
			checkNumber(t, "RowFixed", fixedIn(next, d))(impl.RowFixed(a, b, d))
		}
		for _, d := range notSteps() {
			checkNoNumber(t, "RowFixed")(impl.RowFixed(a, b, d))
		}
	}
	for d, want := range []int{20, 0, 2, 0, 2, 0, 20} {
		checkNumber(t, "RowFixed", want)(impl.RowFixed(3, 3, d))
	}
	checkNumber(t, "RowFixed", 11)(impl.RowFixed(10, 1, 55))
	checkNumber(t, "RowFixed", 0)(impl.RowFixed(10, 1, 60))
	checkNumber(t, "RowFixed", 2)(impl.RowFixed(1, 1, 60))
}

func TestFixedByPromotion(t *testing.T) {
	for _, sides := range allSides() {
		a, b := sides[0], sides[1]
		for d := 0; d <= 60; d++ {
			checkNumber(t, "PromotionFixed", tableauxFixed(a, b, d))(impl.PromotionFixed(a, b, d))
		}
		for _, d := range notSteps() {
			checkNoNumber(t, "PromotionFixed")(impl.PromotionFixed(a, b, d))
		}
	}
	for d, want := range []int{5, 0, 2, 3, 2, 0, 5} {
		checkNumber(t, "PromotionFixed", want)(impl.PromotionFixed(2, 3, d))
	}
	checkNumber(t, "PromotionFixed", 1)(impl.PromotionFixed(1, 10, 59))
	checkNumber(t, "PromotionFixed", 42)(impl.PromotionFixed(3, 3, 54))
	checkNumber(t, "PromotionFixed", 42)(impl.PromotionFixed(5, 2, 60))
}

func TestStabilizers(t *testing.T) {
	for _, sides := range allSides() {
		a, b := sides[0], sides[1]
		r := rectangleOrder(a, b)
		checkList(t, "RowStabilizers", stabilizersBy(a+b, lengthsOf(r.orbitsIn(r.rows()))))(impl.RowStabilizers(a, b))
		checkList(t, "PromotionStabilizers", stabilizersBy(a*b, tableauOrbits(a, b)))(impl.PromotionStabilizers(a, b))
	}
	for n := 1; n <= 10; n++ {
		// One orbit through all ideals of a chain, and one tableau.
		checkList(t, "RowStabilizers", []int{1})(impl.RowStabilizers(1, n))
		checkList(t, "RowStabilizers", []int{1})(impl.RowStabilizers(n, 1))
		checkList(t, "PromotionStabilizers", []int{n})(impl.PromotionStabilizers(1, n))
		checkList(t, "PromotionStabilizers", []int{n})(impl.PromotionStabilizers(n, 1))
	}
	checkList(t, "RowStabilizers", []int{1, 1, 2})(impl.RowStabilizers(2, 4))
	checkList(t, "RowStabilizers", []int{1, 1, 1, 3})(impl.RowStabilizers(3, 3))
	checkList(t, "RowStabilizers", []int{1, 1, 1})(impl.RowStabilizers(2, 5))
	checkList(t, "PromotionStabilizers", []int{2})(impl.PromotionStabilizers(2, 2))
	checkList(t, "PromotionStabilizers", []int{2, 3})(impl.PromotionStabilizers(3, 2))
}

// TestOrbitsTellRemainders goes from numbers of orbits to remainders and back.
func TestOrbitsTellRemainders(t *testing.T) {
	for _, n := range []int{1, 2, 3, 4, 5, 6, 8, 9, 12, 16, 30, 36, 48, 59, 60} {
		divisors := divisorsByTrial(n)
		for _, number := range []func(i int) int{
			func(i int) int { return i },
			func(i int) int { return 1 },
			func(i int) int { return 0 },
			func(i int) int { return i * i % 5 },
			func(i int) int { return (i + 1) / len(divisors) },
			func(i int) int { return 60 - i },
		} {
			var orbits, stabilizers []int
			for i, g := range divisors {
				orbits = append(orbits, number(i))
				stabilizers = append(stabilizers, slices.Repeat([]int{g}, number(i))...)
			}
			rests := sievedBy(stabilizers, n)
			checkList(t, "OrbitsByRests", orbits)(impl.OrbitsByRests(rests))
			checkSieved(t, rests, stabilizers)
			checkAnswer(t, "IsSieved", true)(impl.IsSieved(rests, stabilizers))
			// All that is shared is back behind n steps, and the orbits of a length that divides d behind d.
			for d := 0; d <= 60; d++ {
				fixed := 0
				for _, stabilizer := range stabilizers {
					if length := n / stabilizer; d%length == 0 {
						fixed += length
					}
				}
				checkNumber(t, "ValueByRemainders", fixed)(impl.ValueByRemainders(rests, d))
			}
		}
	}
}

func TestKnownOrbitsOfRemainders(t *testing.T) {
	for _, c := range []struct{ rests, orbits []int }{
		{[]int{5}, []int{5}},
		{[]int{0}, []int{0}},
		{[]int{100_000_000}, []int{100_000_000}},
		{[]int{3, 1}, []int{1, 2}},
		{[]int{3, 3}, []int{3, 0}},
		{[]int{4, 3, 3, 4, 3, 3}, []int{3, 0, 1, 0}},
		// 6 takes the orbits of 1, 2 and 3 away, not those of 4.
		{[]int{9, 1, 3, 2, 6, 1, 5, 1, 6, 2, 3, 1}, []int{1, 2, 1, 3, 1, 1}},
		{append([]int{100_000_000}, make([]int, 59)...), []int{0, 0, 0, 0, 0, 0, 0, 0, 0, 0, 0, 100_000_000}},
		{slices.Repeat([]int{100_000_000}, 60), []int{100_000_000, 0, 0, 0, 0, 0, 0, 0, 0, 0, 0, 0}},
	} {
		checkList(t, "OrbitsByRests", c.orbits)(impl.OrbitsByRests(c.rests))
	}
	// Less than 0 at the first divisor that is not 1, at one between, or at n.
	for _, rests := range [][]int{
		{0, 1}, {2, 3}, {0, 100_000_000}, {99_999_999, 100_000_000}, {5, 2, 1, 2}, {1, 1, 2, 1}, {9, 2, 2, 1, 2, 2}, {4, 1, 3, 3, 3, 1}, {0, 0, 1, 0},
	} {
		checkNoList(t, "OrbitsByRests")(impl.OrbitsByRests(rests))
	}
}

// TestSmallSieves has all lists of up to 3 stabilizers for up to 4 remainders.
func TestSmallSieves(t *testing.T) {
	for count := range 4 {
		eachList(count, 0, 6, func(stabilizers []int) {
			for n := 1; n <= 4; n++ {
				if slices.Contains(stabilizers, 0) {
					checkNoAnswer(t, "IsSieved")(impl.IsSieved(make([]int, n), stabilizers))
					continue
				}
				eachList(n, 0, 3, func(rests []int) { checkSieved(t, rests, stabilizers) })
			}
		})
	}
}

func checkSieved(t *testing.T, rests, stabilizers []int) {
	t.Helper()
	want := slices.Equal(rests, sievedBy(stabilizers, len(rests)))
	checkAnswer(t, "IsSieved", want)(impl.IsSieved(rests, stabilizers))
}

// TestNearlySieved changes one remainder, or the stabilizers.
func TestNearlySieved(t *testing.T) {
	for _, n := range []int{1, 2, 7, 12, 59, 60} {
		for _, stabilizers := range [][]int{
			nil, {}, {1}, {60}, {59, 60}, {7, 7}, {5, 8, 11}, upTo(1, 60), slices.Repeat([]int{1}, 1000), slices.Repeat([]int{60, 59, 1, 13}, 250), slices.Repeat([]int{2}, 999),
		} {
			rests := sievedBy(stabilizers, n)
			checkAnswer(t, "IsSieved", true)(impl.IsSieved(rests, stabilizers))
			for r := range rests {
				changed := slices.Clone(rests)
				changed[r]++
				checkAnswer(t, "IsSieved", false)(impl.IsSieved(changed, stabilizers))
				if rests[r] > 0 {
					changed[r] -= 2
					checkAnswer(t, "IsSieved", false)(impl.IsSieved(changed, stabilizers))
				}
			}
			if len(stabilizers) > 0 {
				checkAnswer(t, "IsSieved", false)(impl.IsSieved(rests, stabilizers[1:]))
			}
			// The order of the stabilizers does not matter.
			back := slices.Clone(stabilizers)
			slices.Reverse(back)
			checkAnswer(t, "IsSieved", true)(impl.IsSieved(rests, back))
		}
	}
}

func TestKnownSieves(t *testing.T) {
	for _, c := range []struct {
		rests, stabilizers []int
		want               bool
	}{
		{[]int{0}, nil, true},
		{[]int{1}, nil, false},
		{make([]int, 60), nil, true},
		{[]int{1}, []int{60}, true},
		{[]int{2, 1, 2, 1}, []int{2, 1}, true},
		{[]int{2, 1, 2, 1}, []int{4, 2}, false},
		{[]int{2, 1, 2, 1}, []int{1, 1}, false},
		// Numbers that do not divide 4: 3 divides the index 3, and 5 the index 0 alone.
		{[]int{1, 0, 0, 1}, []int{3}, true},
		{[]int{1, 0, 0, 0}, []int{5}, true},
		{[]int{0, 0, 0, 0}, []int{5}, false},
		{[]int{3, 1, 1, 2}, []int{1, 3, 5}, true},
	} {
		checkAnswer(t, "IsSieved", c.want)(impl.IsSieved(c.rests, c.stabilizers))
	}
}

func TestListsThatAreNoStabilizers(t *testing.T) {
	for _, rests := range [][]int{{0}, {1}, {2, 1}, make([]int, 60)} {
		for _, length := range []int{1001, 1002, 100_000} {
			checkNoAnswer(t, "IsSieved")(impl.IsSieved(rests, slices.Repeat([]int{1}, length)))
		}
		for _, number := range notStabilizers() {
			for _, length := range []int{1, 2, 1000} {
				for _, i := range []int{0, length / 2, length - 1} {
					list := slices.Repeat([]int{1}, length)
					list[i] = number
					checkNoAnswer(t, "IsSieved")(impl.IsSieved(rests, list))
				}
			}
		}
	}
}

// TestRowmotionIsSieved and TestPromotionIsSieved have the remainders of the polynomials for all rectangles.
func TestRowmotionIsSieved(t *testing.T) {
	for _, sides := range allSides() {
		a, b := sides[0], sides[1]
		gauss, _ := impl.GaussOf(a, b)
		stabilizers, ok := impl.RowStabilizers(a, b)
		if !ok {
			t.Errorf("RowStabilizers(%d, %d) fails", a, b)
		}
		checkTurn(t, gauss, a+b, stabilizers, func(d int) int {
			fixed, _ := impl.RowFixed(a, b, d)
			return fixed
		})
	}
}

func TestPromotionIsSieved(t *testing.T) {
	for _, sides := range allSides() {
		a, b := sides[0], sides[1]
		hooks, _ := impl.HookPolynomial(a, b)
		stabilizers, ok := impl.PromotionStabilizers(a, b)
		if !ok {
			t.Errorf("PromotionStabilizers(%d, %d) fails", a, b)
		}
		checkTurn(t, hooks, a*b, stabilizers, func(d int) int {
			fixed, _ := impl.PromotionFixed(a, b, d)
			return fixed
		})
	}
}

// checkTurn compares the remainders of a polynomial for a turn with its orbits and with what its steps leave.
func checkTurn(t *testing.T, coefficients []int, steps int, stabilizers []int, fixed func(d int) int) {
	t.Helper()
	rests, ok := impl.RemaindersOf(coefficients, steps)
	if !ok {
		t.Errorf("RemaindersOf(%v, %d) fails", coefficients, steps)
	}
	checkAnswer(t, "IsSieved", true)(impl.IsSieved(rests, stabilizers))
	var orbits []int
	for _, g := range divisorsByTrial(steps) {
		orbits = append(orbits, countOf(stabilizers, g))
	}
	checkList(t, "OrbitsByRests", orbits)(impl.OrbitsByRests(rests))
	for d := 0; d <= 60; d++ {
		checkNumber(t, "ValueByRemainders", fixed(d))(impl.ValueByRemainders(rests, d))
	}
	// One orbit more, or one of another length, is not sieved any more.
	checkAnswer(t, "IsSieved", false)(impl.IsSieved(rests, append(slices.Clone(stabilizers), steps)))
	checkAnswer(t, "IsSieved", false)(impl.IsSieved(rests, stabilizers[1:]))
	changed := slices.Clone(stabilizers)
	changed[0] = steps + 1 - changed[0]
	checkSieved(t, rests, changed)
}

func TestOneElementOnATurn(t *testing.T) {
	checkList(t, "GaussOf", []int{1, 1})(impl.GaussOf(1, 1))
	checkList(t, "HookPolynomial", []int{1})(impl.HookPolynomial(1, 1))
	checkList(t, "RowStabilizers", []int{1})(impl.RowStabilizers(1, 1))
	checkList(t, "PromotionStabilizers", []int{1})(impl.PromotionStabilizers(1, 1))
	for d := 0; d <= 60; d++ {
		checkNumber(t, "RowFixed", 2-2*(d%2))(impl.RowFixed(1, 1, d))
		checkNumber(t, "PromotionFixed", 1)(impl.PromotionFixed(1, 1, d))
		checkNumber(t, "RootSum", 1)(impl.RootSum(1, d))
		checkNumber(t, "ValueByRemainders", 2-2*(d%2))(impl.ValueByRemainders([]int{1, 1}, d))
		checkNumber(t, "ValueByRemainders", 1)(impl.ValueByRemainders([]int{1}, d))
	}
}
