package tests

import (
	"math"
	"slices"

	"loop.example/g01138/impl"
)

// What the eighth chapter says of arrays, once more, on the tables of model_test.go. Arrays are labels (chapter 6)
// for bounds that may be greater, so that isLabels, labels, idealsIn, labelsIn and complementOf tell arrays, too.

// endsAt looks at the elements that e covers, and at those by which it is covered.
func (r relation) endsAt(x []int, bound, e int) (int, int) {
	low, high := 0, bound
	for f := range r {
		if r.covered(f, e) && x[f] > low {
			low = x[f]
		}
		if r.covered(e, f) && x[f] < high {
			high = x[f]
		}
	}
	return low, high
}

func (r relation) turnedAt(x []int, bound int, word []int) []int {
	other := slices.Clone(x)
	for _, e := range word {
		low, high := r.endsAt(other, bound, e)
		other[e] = low + high - other[e]
	}
	return other
}

// arrayRow turns the numbers at all elements, from the last one down to the first one.
func (r relation) arrayRow(x []int, bound int) []int {
	return r.turnedAt(x, bound, turnedRound(upTo(0, len(r)-1)))
}

// arrayOrbit follows an array until it is back.
func (r relation) arrayOrbit(x []int, bound int) [][]int {
	return linearOrbit(x, func(x []int) []int { return r.arrayRow(x, bound) })
}

func turnedRound(list []int) []int {
	back := slices.Clone(list)
	slices.Reverse(back)
	return back
}

// areLayers says whether a list has at most 20 ideals, each one part of the next one.
func (r relation) areLayers(list []int) bool {
	for k := range list {
		if !r.isChainOfIdeals(list[k:min(k+2, len(list))]) {
			return false
		}
	}
	return len(list) <= 20
}

// zerosAt has 0 at the elements of a set and another number elsewhere.
func zerosAt(s, n, other int) []int {
	x := make([]int, n)
	for e := range x {
		if !in(e, s) {
			x[e] = other
		}
	}
	return x
}

// someArrays returns arrays of any poset for any bound: with equal numbers, with those at the ends, and mixed ones.
func (r relation) someArrays(bound int) [][]int {
	n := len(r)
	list := [][]int{make([]int, n), slices.Repeat([]int{bound}, n)}
	for seed := 1; seed <= 5; seed++ {
		x := make([]int, n)
		for e := range x {
			low := 0
			for f := range e {
				if r[f][e] {
					low = max(low, x[f])
				}
			}
			x[e] = low + (seed*seed*7+e*e*5+seed*e*3)%(bound-low+1)/min(seed, 3)
		}
		list = append(list, x)
	}
	return list
}

// piecePosets are all posets of up to 3 elements and some of up to 10, ranked and not ranked.
func piecePosets() []impl.Poset {
	list := append(smallPosets(3), largePosets()...)
	for n := 4; n <= 10; n++ {
		fence, _ := impl.Fence(n)
		list = append(list, fence)
	}
	for n := 2; n <= 4; n++ {
		stairs, _ := impl.Staircase(n)
		list = append(list, stairs)
	}
	for _, sides := range allSides() {
		list = append(list, rectangleOrder(sides[0], sides[1]).poset())
	}
	return append(list, posetWith(7, [2]int{0, 1}, [2]int{1, 2}, [2]int{2, 6}, [2]int{3, 6}, [2]int{4, 5}))
}

// listedPosets are all posets of up to 5 elements and some of 6.
func listedPosets() []impl.Poset {
	list := append(smallPosets(5), antichainOf(6))
	for _, p := range linearPosets() {
		if len(p.Less) == 6 {
			list = append(list, p)
		}
	}
	return list
}

// tooLargePosets have more elements than arrays are listed and counted for.
func tooLargePosets() []impl.Poset {
	var list []impl.Poset
	for n := 7; n <= 10; n++ {
		fence, _ := impl.Fence(n)
		list = append(list, chainOf(n), antichainOf(n), fence)
	}
	return append(list, rectangleOrder(2, 4).poset(), rectangleOrder(3, 3).poset(), largePosets()[2], largePosets()[3])
}

// orbitsAtTheirLimit are arrays with the lengths of their orbits, which a search came upon.
func orbitsAtTheirLimit() []longOrbit {
	return []longOrbit{
		{"7:0<1,1<3,1<5,1<6,2<3,2<4,2<6,4<5", 5, []int{1, 3, 3, 4, 3, 4, 4}, 999},
		{"7:0<1,0<4,1<3,2<5,3<5,4<6,5<6", 10, []int{1, 5, 6, 6, 5, 7, 7}, 1000},
		{"7:0<1,0<2,1<4,1<5,2<3,2<5,3<6", 11, []int{3, 3, 11, 11, 8, 11, 11}, 1000},
		{"6:0<4,1<3,2<5,3<4,3<5", 16, []int{0, 11, 2, 15, 15, 15}, 1001},
		{"5:0<3,0<4,1<2,1<4,2<3", 18, []int{8, 4, 9, 11, 11}, 1001},
		{"6:0<3,0<4,0<5,1<4,2<3", 11, []int{2, 9, 0, 10, 10, 6}, 1002},
	}
}

type longOrbit struct {
	text   string
	bound  int
	x      []int
	length int
}

// notHighs are no bounds of arrays.
func notHighs() []int {
	return []int{-1, -2, -19, -20, -21, 21, 22, 100, 1 << 32, -1 << 32, 1<<32 + 1, 1 << 62, math.MaxInt, math.MinInt}
}

// notElements are no elements of a poset of n elements.
func notElements(n int) []int {
	return []int{-1, -2, n, n + 1, 10, 63, 64, -64, 1 << 32, -1 << 32, math.MaxInt, math.MinInt}
}
