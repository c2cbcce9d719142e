package tests

import (
	"math"
	"slices"

	"loop.example/g01138/impl"
)

// relation[j][i] says that j is less than i. The tests work on these tables
// by the words of the document, so that they share no code with the program.
type relation [][]bool

func emptyRelation(n int) relation {
	r := make(relation, n)
	for i := range r {
		r[i] = make([]bool, n)
	}
	return r
}

func relationOf(less []int) relation {
	r := emptyRelation(len(less))
	for i, sum := range less {
		for j := range less {
			r[j][i] = in(j, sum)
		}
	}
	return r
}

func (r relation) poset() impl.Poset {
	less := make([]int, len(r))
	for i := range r {
		for j := range r {
			if r[j][i] {
				less[i] += power(j)
			}
		}
	}
	return impl.Poset{Less: less}
}

// closed returns the relation with all that follow.
func (r relation) closed() relation {
	c := emptyRelation(len(r))
	for j := range r {
		copy(c[j], r[j])
	}
	for k := range c {
		for j := range c {
			for i := range c {
				if c[j][k] && c[k][i] {
					c[j][i] = true
				}
			}
		}
	}
	return c
}

func (r relation) covered(j, i int) bool {
	if !r[j][i] {
		return false
	}
	for k := range r {
		if r[j][k] && r[k][i] {
			return false
		}
	}
	return true
}

func (r relation) covers() [][]int {
	var pairs [][]int
	for j := range r {
		for i := range r {
			if r.covered(j, i) {
				pairs = append(pairs, []int{j, i})
			}
		}
	}
	return pairs
}

func (r relation) isIdeal(s int) bool {
	for j := range r {
		for i := range r {
			if r[j][i] && in(i, s) && !in(j, s) {
				return false
			}
		}
	}
	return true
}

func (r relation) isAntichain(s int) bool {
	for j := range r {
		for i := range r {
			if r[j][i] && in(i, s) && in(j, s) {
				return false
			}
		}
	}
	return true
}

func (r relation) setsWhere(test func(s int) bool) []int {
	var sets []int
	for s := range power(len(r)) {
		if test(s) {
			sets = append(sets, s)
		}
	}
	return sets
}

// height searches all chains below i.
func (r relation) height(i int) int {
	best := 0
	for j := range r {
		if r[j][i] {
			best = max(best, r.height(j)+1)
		}
	}
	return best
}

func (r relation) isRanked() bool {
	for _, pair := range r.covers() {
		if r.height(pair[1]) != r.height(pair[0])+1 {
			return false
		}
	}
	return true
}

func in(e, s int) bool { return s/power(e)%2 == 1 }

func power(n int) int {
	p := 1
	for range n {
		p *= 2
	}
	return p
}

// isPosetByDocument says whether less is a poset, number by number.
func isPosetByDocument(less []int) bool {
	n := len(less)
	if n < 1 || n > 10 {
		return false
	}
	for i, sum := range less {
		if sum < 0 || sum >= power(i) {
			return false
		}
	}
	r := relationOf(less)
	for i := range r {
		for j := range r {
			for k := range r {
				if r[k][j] && r[j][i] && !r[k][i] {
					return false
				}
			}
		}
	}
	return true
}

// everyPoset returns all posets of n elements.
func everyPoset(n int) []impl.Poset {
	var list []impl.Poset
	less := make([]int, n)
	var fill func(i int)
	fill = func(i int) {
		if i == n {
			if isPosetByDocument(less) {
				list = append(list, impl.Poset{Less: slices.Clone(less)})
			}
			return
		}
		for sum := range power(i) {
			less[i] = sum
			fill(i + 1)
		}
	}
	fill(0)
	return list
}

// somePosets returns all posets of up to 5 elements and some of up to 10, ranked and not ranked.
func somePosets() []impl.Poset {
	var list []impl.Poset
	for n := 1; n <= 5; n++ {
		list = append(list, everyPoset(n)...)
	}
	return append(list, largePosets()...)
}

func largePosets() []impl.Poset {
	antichain := make([]int, 10)
	chain := make([]int, 10)
	for i := range chain {
		chain[i] = power(i) - 1
	}
	twoLevels := []int{0, 0, 0, 0, 0, 31, 31, 31, 31, 31}
	mixed := relationOf(make([]int, 9))
	for _, pair := range [][2]int{{0, 3}, {1, 3}, {1, 4}, {3, 5}, {2, 7}, {5, 7}, {4, 8}, {0, 8}, {6, 8}} {
		mixed[pair[0]][pair[1]] = true
	}
	return []impl.Poset{{Less: antichain}, {Less: chain}, {Less: twoLevels}, mixed.closed().poset(), pentagon()}
}

// pentagon is the least poset with covers that is not ranked as its two ways up differ.
func pentagon() impl.Poset { return impl.Poset{Less: []int{0, 1, 1, 5, 15}} }

// badPosets are no posets, each for another reason.
func badPosets() []impl.Poset {
	return []impl.Poset{
		{},
		{Less: []int{}},
		{Less: make([]int, 11)},
		{Less: make([]int, 100)},
		{Less: []int{1}},
		{Less: []int{-1}},
		{Less: []int{0, -1}},
		{Less: []int{0, 2}},
		{Less: []int{0, 3}},
		{Less: []int{2, 0}},
		{Less: []int{0, 4, 0}},
		{Less: []int{0, 1, 2}},
		{Less: []int{0, 1, 2, 4}},
		{Less: []int{0, 0, 0, 0, 1 << 40}},
		{Less: []int{0, math.MinInt}},
		{Less: []int{0, math.MaxInt}},
		{Less: []int{math.MinInt, 0}},
	}
}

// notSetsOf are numbers that are no sets of elements of a poset of n elements.
func notSetsOf(n int) []int {
	return []int{-1, power(n), power(n) + 1, -power(n), 1 << 20, 1 << 62, math.MaxInt, math.MinInt}
}
