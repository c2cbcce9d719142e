package tests

import (
	"math"
	"slices"
	"testing"

	"loop.example/g01138/impl"
)

func checkRange(t *testing.T, wantLow, wantHigh int) func(low, high int, ok bool) {
	return func(low, high int, ok bool) {
		t.Helper()
		if !ok || low != wantLow || high != wantHigh {
			t.Errorf("RangeAt = %d, %d, %v, not %d, %d", low, high, ok, wantLow, wantHigh)
		}
	}
}

func checkNoRange(t *testing.T) func(low, high int, ok bool) {
	return func(low, high int, ok bool) {
		t.Helper()
		if ok || low != 0 || high != 0 {
			t.Errorf("RangeAt = %d, %d, %v", low, high, ok)
		}
	}
}

func TestChapter8Example(t *testing.T) {
	p := mustParse(t, "4:0<1,0<2,1<3,2<3")
	x := []int{1, 2, 4, 5}
	checkAnswer(t, "IsArray", true)(impl.IsArray(p, x, 5))
	checkRange(t, 4, 5)(impl.RangeAt(p, x, 5, 3))
	checkList(t, "ToggleNumber", []int{1, 2, 4, 4})(impl.ToggleNumber(p, x, 5, 3))
	checkList(t, "ToggleNumbers", []int{1, 2, 1, 4})(impl.ToggleNumbers(p, x, 5, []int{3, 2}))
	checkList(t, "ToggleNumbers", []int{1, 3, 1, 4})(impl.ToggleNumbers(p, x, 5, []int{3, 2, 1}))
	checkList(t, "RowArray", []int{0, 3, 1, 4})(impl.RowArray(p, x, 5))
	checkList(t, "RowArrayBack", x)(impl.RowArrayBack(p, []int{0, 3, 1, 4}, 5))
	checkList(t, "RowArrayTimes", x)(impl.RowArrayTimes(p, x, 5, 4))
}

func TestLimitsOfChapter8(t *testing.T) {
	if impl.MaxHigh != 20 || impl.MaxFew != 4 {
		t.Errorf("MaxHigh = %d, MaxFew = %d", impl.MaxHigh, impl.MaxFew)
	}
}

// TestListsAsArrays tries all lists of up to 4 numbers in -1..bound + 1 for up to 3 elements.
func TestListsAsArrays(t *testing.T) {
	for _, p := range smallPosets(3) {
		for bound := 0; bound <= 3; bound++ {
			for length := 0; length <= len(p.Less)+1; length++ {
				eachList(length, -1, bound+1, func(list []int) { checkAsArray(t, p, list, bound) })
			}
		}
	}
}

// checkAsArray gives any list: if it is no array, all functions that require one fail.
func checkAsArray(t *testing.T, p impl.Poset, list []int, bound int) {
	t.Helper()
	r := relationOf(p.Less)
	if len(list) != len(p.Less) {
		checkNoAnswer(t, "IsArray")(impl.IsArray(p, list, bound))
		checkNoArray(t, p, list, bound)
		return
	}
	want := r.isLabels(list, bound, false)
	checkAnswer(t, "IsArray", want)(impl.IsArray(p, list, bound))
	if !want {
		checkNoArray(t, p, list, bound)
		return
	}
	checkArray(t, p, r, list, bound)
}

// checkArray asks for all that is told of an array.
func checkArray(t *testing.T, p impl.Poset, r relation, x []int, bound int) {
	t.Helper()
	for e := range x {
		low, high := r.endsAt(x, bound, e)
		checkRange(t, low, high)(impl.RangeAt(p, x, bound, e))
		checkList(t, "ToggleNumber", r.turnedAt(x, bound, []int{e}))(impl.ToggleNumber(p, x, bound, e))
	}
	next := r.arrayRow(x, bound)
	checkList(t, "RowArray", next)(impl.RowArray(p, x, bound))
	checkList(t, "RowArrayBack", x)(impl.RowArrayBack(p, next, bound))
	layers := idealsIn(x, bound)
	checkList(t, "LayersOf", layers)(impl.LayersOf(p, x, bound))
	checkList(t, "FromLayers", x)(impl.FromLayers(p, layers))
	checkNumber(t, "IdealOfArray", idealsIn(x, 1)[0])(impl.IdealOfArray(p, x, bound))
	checkList(t, "MirrorArray", complementOf(x, bound))(impl.MirrorArray(p, x, bound))
}

// checkNoArray gives fitting other arguments, so that it is the poset, the list or the bound that makes a call fail.
func checkNoArray(t *testing.T, p impl.Poset, x []int, bound int) {
	t.Helper()
	checkNoList(t, "ToggleNumber")(impl.ToggleNumber(p, x, bound, 0))
	for _, word := range [][]int{nil, {0}, {0, 0}} {
		checkNoList(t, "ToggleNumbers")(impl.ToggleNumbers(p, x, bound, word))
	}
	checkNoList(t, "RowArray")(impl.RowArray(p, x, bound))
	checkNoList(t, "RowArrayBack")(impl.RowArrayBack(p, x, bound))
	for _, k := range []int{0, 1, -1, 1000} {
		checkNoList(t, "RowArrayTimes")(impl.RowArrayTimes(p, x, bound, k))
	}
	checkNoNumber(t, "IdealOfArray")(impl.IdealOfArray(p, x, bound))
	checkNoList(t, "LayersOf")(impl.LayersOf(p, x, bound))
	checkNoRows(t, "ArrayOrbit")(impl.ArrayOrbit(p, x, bound))
	checkNoList(t, "MirrorArray")(impl.MirrorArray(p, x, bound))
	checkNoRange(t)(impl.RangeAt(p, x, bound, 0))
}

// TestListsThatAreNearlyArrays changes a number of arrays of large posets, or the length.
func TestListsThatAreNearlyArrays(t *testing.T) {
	for _, p := range append(largePosets(), antichainOf(1), chainOf(9)) {
		for _, bound := range []int{0, 1, 19, 20} {
			for _, x := range relationOf(p.Less).someArrays(bound) {
				checkAsArray(t, p, x, bound)
				for k := range x {
					checkAsArray(t, p, x[:k], bound)
					checkAsArray(t, p, append(slices.Clone(x), x[k]), bound)
					for _, number := range []int{-1, 0, x[k] - 1, x[k] + 1, bound - 1, bound, bound + 1, 21, 64, 1 << 32, -1 << 32, math.MaxInt, math.MinInt} {
						changed := slices.Clone(x)
						changed[k] = number
						checkAsArray(t, p, changed, bound)
					}
				}
			}
			for _, length := range []int{0, 11, 20, 100, 100000} {
				checkAsArray(t, p, make([]int, length), bound)
			}
		}
	}
}

// TestNumbersAreTurnedBack has all arrays of small posets, and some of large ones.
func TestNumbersAreTurnedBack(t *testing.T) {
	for _, p := range smallPosets(4) {
		for bound := 0; bound <= 3; bound++ {
			for _, x := range relationOf(p.Less).labels(bound, false) {
				checkTurnedBack(t, p, x, bound)
			}
		}
	}
	for _, p := range piecePosets() {
		for _, bound := range []int{0, 1, 2, 7, 19, 20} {
			for _, x := range relationOf(p.Less).someArrays(bound) {
				checkTurnedBack(t, p, x, bound)
			}
		}
	}
}

// checkTurnedBack toggles at each element once and twice.
func checkTurnedBack(t *testing.T, p impl.Poset, x []int, bound int) {
	t.Helper()
	checkAsArray(t, p, x, bound)
	for e := range x {
		other, ok := impl.ToggleNumber(p, x, bound, e)
		if !ok {
			t.Errorf("ToggleNumber(%v, %v, %d, %d) fails", p, x, bound, e)
			continue
		}
		checkAnswer(t, "IsArray", true)(impl.IsArray(p, other, bound))
		checkList(t, "ToggleNumber twice", x)(impl.ToggleNumber(p, other, bound, e))
		// The range does not depend on the number in it.
		low, high, _ := impl.RangeAt(p, x, bound, e)
		checkRange(t, low, high)(impl.RangeAt(p, other, bound, e))
		if low > x[e] || x[e] > high || other[e] != low+high-x[e] {
			t.Errorf("%d is turned to %d in %d..%d", x[e], other[e], low, high)
		}
	}
}

func TestKnownRanges(t *testing.T) {
	p := pentagon()
	x := []int{2, 9, 4, 6, 13}
	// 0 covers none, 4 is covered by none, and the greatest number below 4 is not that of the last element.
	for e, ends := range [][2]int{{0, 4}, {2, 13}, {2, 6}, {4, 13}, {9, 20}} {
		checkRange(t, ends[0], ends[1])(impl.RangeAt(p, x, 20, e))
	}
	for e, want := range [][]int{{2, 9, 4, 6, 13}, {2, 6, 4, 6, 13}, {2, 9, 4, 6, 13}, {2, 9, 4, 11, 13}, {2, 9, 4, 6, 16}} {
		checkList(t, "ToggleNumber", want)(impl.ToggleNumber(p, x, 20, e))
	}
	for e := range 10 {
		checkRange(t, 0, 20)(impl.RangeAt(antichainOf(10), make([]int, 10), 20, e))
		checkList(t, "ToggleNumber", zerosAt(power(10)-1-power(e), 10, 20))(impl.ToggleNumber(antichainOf(10), make([]int, 10), 20, e))
		checkRange(t, 0, 0)(impl.RangeAt(chainOf(10), make([]int, 10), 0, e))
		checkRange(t, min(e, 1)*20, 20)(impl.RangeAt(chainOf(10), slices.Repeat([]int{20}, 10), 20, e))
	}
}

func TestElementsWithoutNumbers(t *testing.T) {
	for _, p := range piecePosets() {
		n := len(p.Less)
		longest := make([]int, 100)
		for _, bound := range []int{0, 1, 20} {
			for _, x := range relationOf(p.Less).someArrays(bound) {
				for _, e := range notElements(n) {
					checkNoList(t, "ToggleNumber")(impl.ToggleNumber(p, x, bound, e))
					checkNoRange(t)(impl.RangeAt(p, x, bound, e))
					for _, word := range [][]int{{e}, {0, e}, {e, 0}, {0, n - 1, e, 0}, append(longest[:99:99], e)} {
						checkNoList(t, "ToggleNumbers")(impl.ToggleNumbers(p, x, bound, word))
					}
				}
				for _, length := range []int{101, 102, 1000, 100000} {
					checkNoList(t, "ToggleNumbers")(impl.ToggleNumbers(p, x, bound, make([]int, length)))
				}
			}
		}
	}
}

func TestWordsOfNumbers(t *testing.T) {
	for _, p := range append(piecePosets(), everyPoset(4)...) {
		r := relationOf(p.Less)
		for _, bound := range []int{0, 1, 5, 20} {
			for _, x := range r.someArrays(bound) {
				for _, word := range append(someWords(len(r)), make([]int, 99), make([]int, 100)) {
					want := r.turnedAt(x, bound, word)
					checkList(t, "ToggleNumbers", want)(impl.ToggleNumbers(p, x, bound, word))
					checkList(t, "ToggleNumbers back", x)(impl.ToggleNumbers(p, want, bound, turnedRound(word)))
				}
				checkList(t, "ToggleNumbers nowhere", x)(impl.ToggleNumbers(p, x, bound, nil))
			}
		}
	}
}

// TestRowmotionOfArraysInAnyOrder toggles at all elements in other orders, the last one first.
func TestRowmotionOfArraysInAnyOrder(t *testing.T) {
	for _, p := range append(piecePosets(), everyPoset(4)...) {
		r := relationOf(p.Less)
		orders := r.someOrders()
		if len(r) <= 4 {
			orders = r.orders()
		}
		for _, bound := range []int{1, 4, 20} {
			for _, x := range r.someArrays(bound) {
				want := r.arrayRow(x, bound)
				checkList(t, "RowArray", want)(impl.RowArray(p, x, bound))
				for _, order := range orders {
					checkList(t, "ToggleNumbers", want)(impl.ToggleNumbers(p, x, bound, turnedRound(order)))
					checkList(t, "ToggleNumbers", x)(impl.ToggleNumbers(p, want, bound, order))
				}
			}
		}
	}
}

func TestRowArrayTimes(t *testing.T) {
	for _, p := range piecePosets() {
		r := relationOf(p.Less)
		for _, bound := range []int{0, 1, 6, 20} {
			for _, x := range r.someArrays(bound) {
				after := x
				for k := range 9 {
					checkList(t, "RowArrayTimes", after)(impl.RowArrayTimes(p, x, bound, k))
					checkList(t, "RowArrayTimes back", x)(impl.RowArrayTimes(p, after, bound, -k))
					after = r.arrayRow(after, bound)
				}
				for _, k := range []int{1001, -1001, 1002, -1002, 1 << 32, -1 << 32, 1 << 62, math.MaxInt, math.MinInt} {
					checkNoList(t, "RowArrayTimes")(impl.RowArrayTimes(p, x, bound, k))
				}
			}
		}
	}
}

// TestRowArrayAtMaxMotions has arrays that neither 999 nor 1000 rowmotions lead back.
func TestRowArrayAtMaxMotions(t *testing.T) {
	for _, c := range orbitsAtTheirLimit() {
		p := mustParse(t, c.text)
		r := relationOf(p.Less)
		orbit := r.arrayOrbit(c.x, c.bound)
		if len(orbit) != c.length {
			t.Errorf("%v has an orbit of %d arrays, not %d", c.x, len(orbit), c.length)
		}
		for _, k := range []int{0, 1, 2, 500, 998, 999, 1000} {
			after := orbit[k%c.length]
			checkList(t, "RowArrayTimes", after)(impl.RowArrayTimes(p, c.x, c.bound, k))
			checkList(t, "RowArrayTimes back", c.x)(impl.RowArrayTimes(p, after, c.bound, -k))
			checkList(t, "RowArrayTimes back", orbit[(c.length-k+c.length)%c.length])(impl.RowArrayTimes(p, c.x, c.bound, -k))
		}
		checkArrayOrbit(t, p, c.x, c.bound)
		checkArrayOrbit(t, p, orbit[c.length-1], c.bound)
	}
}

// checkArrayOrbit compares an orbit, which may be too long.
func checkArrayOrbit(t *testing.T, p impl.Poset, x []int, bound int) {
	t.Helper()
	got, ok := impl.ArrayOrbit(p, x, bound)
	if want := relationOf(p.Less).arrayOrbit(x, bound); len(want) > 1000 {
		checkNoRows(t, "ArrayOrbit")(got, ok)
	} else {
		checkRows(t, "ArrayOrbit", want)(got, ok)
	}
}

func TestArrayOrbits(t *testing.T) {
	for _, p := range smallPosets(4) {
		for bound := 0; bound <= 2; bound++ {
			for _, x := range relationOf(p.Less).labels(bound, false) {
				checkArrayOrbit(t, p, x, bound)
			}
		}
	}
	for _, p := range append(smallPosets(3), chainOf(10), antichainOf(10), pentagon()) {
		for _, bound := range []int{1, 3, 19, 20} {
			for _, x := range relationOf(p.Less).someArrays(bound) {
				checkArrayOrbit(t, p, x, bound)
			}
		}
	}
}

func TestKnownArrayOrbits(t *testing.T) {
	square := mustParse(t, "4:0<1,0<2,1<3,2<3")
	checkRows(t, "ArrayOrbit", [][]int{{1, 2, 4, 5}, {0, 3, 1, 4}, {1, 1, 3, 4}, {1, 4, 2, 4}})(impl.ArrayOrbit(square, []int{1, 2, 4, 5}, 5))
	checkRows(t, "ArrayOrbit", [][]int{{0, 0, 0}, {7, 7, 7}, {0, 7, 7}, {0, 0, 7}})(impl.ArrayOrbit(chainOf(3), []int{0, 0, 0}, 7))
	// Orbits of one array.
	for _, c := range []struct {
		text  string
		bound int
		x     []int
	}{
		{"1:-", 0, []int{0}},
		{"1:-", 20, []int{10}},
		{"3:-", 2, []int{1, 1, 1}},
		{"2:0<1", 3, []int{1, 2}},
		{"4:0<1,0<2,1<3,2<3", 4, []int{1, 2, 2, 3}},
		{"4:0<1,0<2,1<3,2<3", 20, []int{5, 10, 10, 15}},
		{"5:0<1,0<2,1<4,2<3,3<4", 0, make([]int, 5)},
		{"10:0<1,1<2,2<3,3<4,4<5,5<6,6<7,7<8,8<9", 11, upTo(1, 10)},
	} {
		p := mustParse(t, c.text)
		checkRows(t, "ArrayOrbit", [][]int{c.x})(impl.ArrayOrbit(p, c.x, c.bound))
		for _, k := range []int{-1000, -1, 0, 1, 7, 1000} {
			checkList(t, "RowArrayTimes", c.x)(impl.RowArrayTimes(p, c.x, c.bound, k))
		}
	}
}

// TestRectanglesLeadBack has as many rowmotions as both sides of a rectangle together.
func TestRectanglesLeadBack(t *testing.T) {
	for _, sides := range allSides() {
		a, b := sides[0], sides[1]
		p, _ := impl.Rectangle(a, b)
		r := relationOf(p.Less)
		for _, bound := range []int{0, 1, 2, 3, 9, 19, 20} {
			list := r.someArrays(bound)
			if a*b <= 6 && bound <= 3 {
				list = r.labels(bound, false)
			}
			longest := 0
			for _, x := range list {
				checkList(t, "RowArrayTimes", x)(impl.RowArrayTimes(p, x, bound, a+b))
				checkList(t, "RowArrayTimes", x)(impl.RowArrayTimes(p, x, bound, -a-b))
				orbit, ok := impl.ArrayOrbit(p, x, bound)
				if !ok || (a+b)%len(orbit) != 0 {
					t.Errorf("ArrayOrbit(%v, %v, %d) = %v, %v", p, x, bound, orbit, ok)
				}
				longest = max(longest, len(orbit))
			}
			// The orbit of the array that has only 0 is the longest one there can be.
			if bound > 0 && longest != a+b {
				t.Errorf("%d and %d have only orbits of %d arrays for %d", a, b, longest, bound)
			}
		}
	}
}

// TestArraysThatAreIdeals has the bound 1, and arrays that have only 0 and the bound.
func TestArraysThatAreIdeals(t *testing.T) {
	for _, p := range append(piecePosets(), everyPoset(4)...) {
		r := relationOf(p.Less)
		n := len(r)
		for _, s := range r.ideals() {
			for _, bound := range []int{1, 2, 19, 20} {
				x := zerosAt(s, n, bound)
				checkList(t, "ArrayOfIdeal", x)(impl.ArrayOfIdeal(p, s, bound))
				checkNumber(t, "IdealOfArray", s)(impl.IdealOfArray(p, x, bound))
				checkList(t, "LayersOf", slices.Repeat([]int{s}, bound))(impl.LayersOf(p, x, bound))
				checkList(t, "FromLayers", x)(impl.FromLayers(p, slices.Repeat([]int{s}, bound)))
				for e := range r {
					other, _ := impl.ToggleAt(p, s, e)
					checkList(t, "ToggleNumber", zerosAt(other, n, bound))(impl.ToggleNumber(p, x, bound, e))
				}
				for _, k := range []int{-1000, -3, -1, 0, 1, 2, 1000} {
					other, _ := impl.RowmotionTimes(p, s, k)
					checkList(t, "RowArrayTimes", zerosAt(other, n, bound))(impl.RowArrayTimes(p, x, bound, k))
				}
				orbit, _ := impl.OrbitOf(p, s)
				var arrays [][]int
				for _, other := range orbit {
					arrays = append(arrays, zerosAt(other, n, bound))
				}
				checkRows(t, "ArrayOrbit", arrays)(impl.ArrayOrbit(p, x, bound))
			}
			// For the bound 0 there is one array, all of whose elements have 0.
			checkList(t, "ArrayOfIdeal", make([]int, n))(impl.ArrayOfIdeal(p, s, 0))
		}
		checkNumber(t, "IdealOfArray", power(n)-1)(impl.IdealOfArray(p, make([]int, n), 0))
		checkList(t, "LayersOf", nil)(impl.LayersOf(p, make([]int, n), 0))
	}
}

func TestIdealsWithoutArrays(t *testing.T) {
	for _, p := range append(smallPosets(4), largePosets()...) {
		r := relationOf(p.Less)
		n := len(r)
		for s := range power(n) {
			if !r.isIdeal(s) {
				checkNoIdealOfArray(t, p, s)
			}
		}
		for _, s := range notSetsOf(n) {
			checkNoIdealOfArray(t, p, s)
		}
		for _, bound := range notHighs() {
			for _, s := range []int{0, 1, power(n) - 1} {
				checkNoList(t, "ArrayOfIdeal")(impl.ArrayOfIdeal(p, s, bound))
			}
		}
	}
}

func checkNoIdealOfArray(t *testing.T, p impl.Poset, s int) {
	t.Helper()
	for _, bound := range []int{0, 1, 20, 21, -1} {
		checkNoList(t, "ArrayOfIdeal")(impl.ArrayOfIdeal(p, s, bound))
	}
	full := power(len(p.Less)) - 1
	for _, layers := range [][]int{{s}, {s, s}, {0, s}, {s, full}, {0, s, full}, append(make([]int, 19), s)} {
		checkNoList(t, "FromLayers")(impl.FromLayers(p, layers))
	}
}

// TestLayersOfArrays tries all lists of up to 3 numbers as layers of posets of up to 3 elements.
func TestLayersOfArrays(t *testing.T) {
	for _, p := range smallPosets(3) {
		for length := 0; length <= 3; length++ {
			chains := 0
			eachList(length, -1, power(len(p.Less)), func(list []int) {
				checkLayers(t, p, list)
				if relationOf(p.Less).areLayers(list) {
					chains++
				}
			})
			checkNumber(t, "CountArrays", chains)(impl.CountArrays(p, length))
		}
	}
}

func checkLayers(t *testing.T, p impl.Poset, list []int) {
	t.Helper()
	r := relationOf(p.Less)
	x, ok := impl.FromLayers(p, list)
	if !r.areLayers(list) {
		checkNoList(t, "FromLayers")(x, ok)
		return
	}
	checkList(t, "FromLayers", r.labelsIn(list))(x, ok)
	checkAnswer(t, "IsArray", true)(impl.IsArray(p, x, len(list)))
	checkList(t, "LayersOf", list)(impl.LayersOf(p, x, len(list)))
}

// TestManyLayers has up to 20 layers of large posets, and more, and changes one of them.
func TestManyLayers(t *testing.T) {
	for _, p := range append(largePosets(), antichainOf(1), chainOf(4)) {
		r := relationOf(p.Less)
		full := power(len(r)) - 1
		chain := []int{0}
		for _, e := range r.lastLinear() {
			chain = append(chain, chain[len(chain)-1], chain[len(chain)-1]+power(e))
		}
		chain = append(chain, slices.Repeat([]int{full}, 22-len(chain))...)
		for length := 0; length <= 22; length++ {
			checkLayers(t, p, chain[:length])
			checkLayers(t, p, chain[22-length:])
			checkLayers(t, p, make([]int, length))
			checkLayers(t, p, slices.Repeat([]int{full}, length))
		}
		for k := range 20 {
			for _, s := range append(notSetsOf(len(r)), 0, 1, 2, 3, 5, full, full-1, -full, full+2*(full+1)) {
				changed := slices.Clone(chain[:20])
				changed[k] = s
				checkLayers(t, p, changed)
				checkLayers(t, p, changed[:k+1])
			}
			// One is no part of the next one.
			changed := slices.Clone(chain[:20])
			changed[k], changed[(k+1)%20] = changed[(k+1)%20], changed[k]
			checkLayers(t, p, changed)
		}
		for _, length := range []int{100, 100000} {
			checkNoList(t, "FromLayers")(impl.FromLayers(p, make([]int, length)))
		}
	}
}

func TestKnownLayers(t *testing.T) {
	p := mustParse(t, "4:0<1,0<2,1<3,2<3")
	checkList(t, "LayersOf", []int{0, 1, 3, 3, 7})(impl.LayersOf(p, []int{1, 2, 4, 5}, 5))
	checkList(t, "FromLayers", []int{1, 2, 4, 5})(impl.FromLayers(p, []int{0, 1, 3, 3, 7}))
	checkList(t, "LayersOf", []int{0, 1, 3, 3, 7, 15})(impl.LayersOf(p, []int{1, 2, 4, 5}, 6))
	checkList(t, "FromLayers", []int{0, 0, 0, 0})(impl.FromLayers(p, nil))
	checkList(t, "FromLayers", []int{20, 20, 20, 20})(impl.FromLayers(p, make([]int, 20)))
	for _, layers := range [][]int{{1, 0}, {3, 5}, {0, 3, 1}, {2}, {0, 1, 9}, {0, 15, 7}, {0, 1, 16}, {-1}, {0, 17}, make([]int, 21)} {
		checkNoList(t, "FromLayers")(impl.FromLayers(p, layers))
	}
}

func TestAllArrays(t *testing.T) {
	for _, p := range listedPosets() {
		r := relationOf(p.Less)
		for bound := 0; bound <= 4; bound++ {
			if len(r) == 5 && bound == 3 {
				continue
			}
			want := r.labels(bound, false)
			checkRows(t, "AllArrays", want)(impl.AllArrays(p, bound))
			checkNumber(t, "CountArrays", len(want))(impl.CountArrays(p, bound))
		}
		for _, bound := range append(notHighs(), 5, 6, 19, 20) {
			checkNoRows(t, "AllArrays")(impl.AllArrays(p, bound))
		}
	}
	p := mustParse(t, "2:0<1")
	checkRows(t, "AllArrays", [][]int{{0, 0}})(impl.AllArrays(p, 0))
	checkRows(t, "AllArrays", [][]int{{0, 0}, {0, 1}, {0, 2}, {1, 1}, {1, 2}, {2, 2}})(impl.AllArrays(p, 2))
}

// TestCountArrays counts along linear extensions, too.
func TestCountArrays(t *testing.T) {
	for _, p := range listedPosets() {
		falls := relationOf(p.Less).fallsOf()
		for bound := 0; bound <= 20; bound++ {
			checkNumber(t, "CountArrays", labelsByLines(falls, len(p.Less), bound))(impl.CountArrays(p, bound))
		}
		for _, bound := range notHighs() {
			checkNoNumber(t, "CountArrays")(impl.CountArrays(p, bound))
		}
	}
	for sides, want := range map[[3]int]int{
		{2, 2, 0}: 1, {2, 2, 1}: 6, {2, 2, 2}: 20, {2, 2, 3}: 50, {2, 3, 2}: 50, {2, 3, 19}: 681835, {3, 2, 20}: 896126, {1, 6, 20}: 230230, {1, 1, 20}: 21,
	} {
		p, _ := impl.Rectangle(sides[0], sides[1])
		checkNumber(t, "CountArrays", want)(impl.CountArrays(p, sides[2]))
	}
	checkNumber(t, "CountArrays", 85766121)(impl.CountArrays(antichainOf(6), 20))
	checkNumber(t, "CountArrays", 64)(impl.CountArrays(antichainOf(6), 1))
}

func TestPosetsWithTooManyArrays(t *testing.T) {
	for _, p := range tooLargePosets() {
		for _, bound := range append(notHighs(), 0, 1, 2, 4, 5, 20) {
			checkNoRows(t, "AllArrays")(impl.AllArrays(p, bound))
			checkNoNumber(t, "CountArrays")(impl.CountArrays(p, bound))
		}
	}
}

// TestMirroredArrays has mirrors, in which rowmotion goes back.
func TestMirroredArrays(t *testing.T) {
	for _, p := range append(piecePosets(), everyPoset(4)...) {
		q, _ := impl.DualOf(p)
		r := relationOf(p.Less)
		for _, bound := range []int{0, 1, 5, 20} {
			for _, x := range r.someArrays(bound) {
				mirror, ok := impl.MirrorArray(p, x, bound)
				checkList(t, "MirrorArray", complementOf(x, bound))(mirror, ok)
				checkAnswer(t, "IsArray in the dual", true)(impl.IsArray(q, mirror, bound))
				checkList(t, "MirrorArray twice", x)(impl.MirrorArray(q, mirror, bound))
				for e := range x {
					low, high, _ := impl.RangeAt(p, x, bound, e)
					checkRange(t, bound-high, bound-low)(impl.RangeAt(q, mirror, bound, len(x)-1-e))
				}
				back, _ := impl.RowArrayBack(p, x, bound)
				checkList(t, "RowArray in the dual", complementOf(back, bound))(impl.RowArray(q, mirror, bound))
			}
		}
	}
	checkList(t, "MirrorArray", []int{0, 9, 18})(impl.MirrorArray(mustParse(t, "3:0<1,0<2"), []int{2, 11, 20}, 20))
}

// TestArraysOfSums has posets beside each other, whose numbers have nothing to do with each other.
func TestArraysOfSums(t *testing.T) {
	for _, p := range append(smallPosets(3), pentagon()) {
		for _, q := range append(smallPosets(3), pentagon()) {
			both, _ := impl.SumOf(p, q)
			for _, bound := range []int{0, 1, 4, 20} {
				for k, x := range relationOf(p.Less).someArrays(bound) {
					y := relationOf(q.Less).someArrays(bound)[6-k]
					one, _ := impl.RowArray(p, x, bound)
					other, _ := impl.RowArray(q, y, bound)
					checkList(t, "RowArray", slices.Concat(one, other))(impl.RowArray(both, slices.Concat(x, y), bound))
				}
			}
		}
	}
}

// TestNoBoundsOfArrays has lists that are arrays for some other bound.
func TestNoBoundsOfArrays(t *testing.T) {
	for _, p := range append(smallPosets(3), largePosets()...) {
		n := len(p.Less)
		for _, bound := range notHighs() {
			for _, list := range [][]int{make([]int, n), upTo(1, n), slices.Repeat([]int{20}, n), slices.Repeat([]int{21}, n), slices.Repeat([]int{bound}, n), nil, make([]int, n+1)} {
				checkNoAnswer(t, "IsArray")(impl.IsArray(p, list, bound))
				checkNoArray(t, p, list, bound)
			}
		}
	}
}

func TestNoPosetsWithArrays(t *testing.T) {
	for _, p := range badPosets() {
		n := len(p.Less)
		for _, list := range [][]int{nil, {}, {0}, {0, 0}, {0, 1}, {0, 1, 2}, make([]int, n), upTo(1, n), slices.Repeat([]int{1}, n)} {
			for _, bound := range append(notHighs(), 0, 1, 2, 20) {
				checkNoAnswer(t, "IsArray")(impl.IsArray(p, list, bound))
				checkNoArray(t, p, list, bound)
			}
			checkNoList(t, "FromLayers")(impl.FromLayers(p, list))
		}
		for _, bound := range append(notHighs(), 0, 1, 4, 5, 20) {
			checkNoRows(t, "AllArrays")(impl.AllArrays(p, bound))
			checkNoNumber(t, "CountArrays")(impl.CountArrays(p, bound))
			for _, s := range []int{0, 1, power(n%60) - 1} {
				checkNoList(t, "ArrayOfIdeal")(impl.ArrayOfIdeal(p, s, bound))
			}
		}
	}
}

func TestOneElementWithNumbers(t *testing.T) {
	p := antichainOf(1)
	for bound := 0; bound <= 20; bound++ {
		checkNumber(t, "CountArrays", bound+1)(impl.CountArrays(p, bound))
		checkList(t, "ArrayOfIdeal", []int{bound})(impl.ArrayOfIdeal(p, 0, bound))
		checkList(t, "ArrayOfIdeal", []int{0})(impl.ArrayOfIdeal(p, 1, bound))
		for number := 0; number <= bound; number++ {
			x, turned := []int{number}, []int{bound - number}
			checkAsArray(t, p, x, bound)
			checkRange(t, 0, bound)(impl.RangeAt(p, x, bound, 0))
			checkList(t, "ToggleNumber", turned)(impl.ToggleNumber(p, x, bound, 0))
			checkList(t, "RowArray", turned)(impl.RowArray(p, x, bound))
			checkList(t, "RowArrayBack", turned)(impl.RowArrayBack(p, x, bound))
			checkList(t, "RowArrayTimes", turned)(impl.RowArrayTimes(p, x, bound, 999))
			checkList(t, "RowArrayTimes", x)(impl.RowArrayTimes(p, x, bound, -1000))
			checkList(t, "MirrorArray", turned)(impl.MirrorArray(p, x, bound))
			checkList(t, "LayersOf", append(make([]int, number), slices.Repeat([]int{1}, bound-number)...))(impl.LayersOf(p, x, bound))
			if orbit := [][]int{x, turned}; 2*number == bound {
				checkRows(t, "ArrayOrbit", orbit[:1])(impl.ArrayOrbit(p, x, bound))
			} else {
				checkRows(t, "ArrayOrbit", orbit)(impl.ArrayOrbit(p, x, bound))
			}
		}
		checkAsArray(t, p, []int{bound + 1}, bound)
		checkAsArray(t, p, []int{-1}, bound)
		checkAsArray(t, p, nil, bound)
	}
}
