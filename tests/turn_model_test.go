package tests

import (
	"math"
	"slices"

	"loop.example/g01138/impl"
)

// What the ninth chapter says of ranks, once more, on the tables of model_test.go.

// rankLists has the elements of each height, from 0 up to the greatest one.
func (r relation) rankLists() [][]int {
	var ranks [][]int
	for e := range r {
		height := r.height(e)
		for len(ranks) <= height {
			ranks = append(ranks, nil)
		}
		ranks[height] = append(ranks[height], e)
	}
	return ranks
}

func setOf(elements []int) int {
	s := 0
	for _, e := range elements {
		s += power(e)
	}
	return s
}

// elementsAlong has the elements of the ranks of a word, those of each rank from the last one to the first one.
func elementsAlong(ranks [][]int, word []int) []int {
	var elements []int
	for _, i := range word {
		elements = append(elements, turnedRound(ranks[i])...)
	}
	return elements
}

// vacuationWord has h, .., 0, then h, .., 1, and so on, and h alone at last.
func vacuationWord(h int) []int {
	var word []int
	for last := 0; last <= h; last++ {
		word = append(word, turnedRound(upTo(last, h))...)
	}
	return word
}

// dualVacuationWord has 0, .., h, then 0, .., h - 1, and so on, and 0 alone at last.
func dualVacuationWord(h int) []int {
	var word []int
	for last := h; last >= 0; last-- {
		word = append(word, upTo(0, last)...)
	}
	return word
}

func gyrationWord(h int) []int {
	even := slices.DeleteFunc(upTo(0, h), func(i int) bool { return i%2 == 1 })
	odd := slices.DeleteFunc(upTo(0, h), func(i int) bool { return i%2 == 0 })
	return append(even, odd...)
}

// along has what the toggles of a word of ranks make of each ideal.
func (r relation) along(word []int) map[int]int {
	elements := elementsAlong(r.rankLists(), word)
	next := map[int]int{}
	for _, s := range r.ideals() {
		next[s] = r.toggledAt(s, elements)
	}
	return next
}

// sortedLengths follows each ideal until it is back.
func (r relation) sortedLengths(next map[int]int) []int {
	return slices.Sorted(slices.Values(r.cycleLengths(func(s int) int { return next[s] })))
}

// dualOfSet has n - 1 - i for all i that are not in a set.
func (r relation) dualOfSet(s int) int {
	other := 0
	for i := range r {
		if !in(len(r)-1-i, s) {
			other += power(i)
		}
	}
	return other
}

// turned is the dual.
func (r relation) turned() relation {
	n := len(r)
	q := emptyRelation(n)
	for j := range r {
		for i := range r {
			q[n-1-i][n-1-j] = r[j][i]
		}
	}
	return q
}

// risesEvenly says whether all elements below none have the greatest height.
func (r relation) risesEvenly() bool {
	ranks := r.rankLists()
	for e := range r {
		isLast := !slices.Contains(r[e], true)
		if isLast && !slices.Contains(ranks[len(ranks)-1], e) {
			return false
		}
	}
	return true
}

// turnPosets are all posets of up to 5 elements and many of up to 10, ranked and not ranked.
func turnPosets() []impl.Poset {
	list := append(linearPosets(), largePosets()...)
	for n := 6; n <= 10; n++ {
		fence, _ := impl.Fence(n)
		list = append(list, antichainOf(n), fence)
	}
	// A cube, and one on which little is built.
	list = append(list, posetWith(8, [2]int{0, 1}, [2]int{0, 2}, [2]int{0, 3}, [2]int{1, 4}, [2]int{2, 4}, [2]int{1, 5}, [2]int{3, 5}, [2]int{2, 6}, [2]int{3, 6}, [2]int{4, 7}, [2]int{5, 7}, [2]int{6, 7}))
	list = append(list, posetWith(9, [2]int{0, 3}, [2]int{1, 3}, [2]int{1, 4}, [2]int{3, 6}, [2]int{4, 6}, [2]int{4, 7}, [2]int{7, 8}))
	// Beside each other, with ranks of elements that have nothing to do with each other.
	list = append(list, posetWith(9, [2]int{0, 1}, [2]int{1, 2}, [2]int{2, 3}, [2]int{4, 5}), posetWith(10, [2]int{0, 9}, [2]int{1, 4}, [2]int{4, 5}, [2]int{5, 8}))
	list = append(list, longPosets()...)
	return append(list, notRankedPosets()...)
}

// longPosets have 8 to 10 ranks, so that rowvacuation toggles 36, 45 or 55 of them.
func longPosets() []impl.Poset {
	list := []impl.Poset{chainOf(8), chainOf(9), chainOf(10)}
	for _, length := range []int{8, 9} {
		chain := [][2]int{}
		for e := 1; e < length; e++ {
			chain = append(chain, [2]int{e - 1, e})
		}
		// Elements beside the chain, above its first one and below its last one.
		list = append(list, posetWith(10, chain...))
		list = append(list, posetWith(10, append(slices.Clone(chain), [2]int{0, 9})...))
		list = append(list, posetWith(10, append(slices.Clone(chain), [2]int{length - 2, 9})...))
	}
	return append(list, posetWith(9, [2]int{0, 1}, [2]int{1, 2}, [2]int{2, 3}, [2]int{3, 5}, [2]int{4, 5}, [2]int{2, 4}, [2]int{5, 6}, [2]int{6, 7}, [2]int{7, 8}))
}

// notRankedPosets have more elements than those of which all are tried.
func notRankedPosets() []impl.Poset {
	return []impl.Poset{
		posetWith(6, [2]int{0, 2}, [2]int{2, 4}, [2]int{1, 4}, [2]int{1, 3}, [2]int{3, 5}),
		posetWith(7, [2]int{0, 1}, [2]int{1, 2}, [2]int{3, 4}, [2]int{4, 5}, [2]int{5, 6}, [2]int{2, 6}),
		posetWith(10, [2]int{1, 2}, [2]int{2, 3}, [2]int{3, 4}, [2]int{4, 5}, [2]int{5, 6}, [2]int{6, 7}, [2]int{7, 8}, [2]int{8, 9}, [2]int{0, 9}),
		posetWith(10, [2]int{8, 9}, [2]int{0, 9}, [2]int{1, 8}, [2]int{2, 8}),
	}
}

// rankedPosets are those of turnPosets that are ranked.
func rankedPosets() []impl.Poset {
	return slices.DeleteFunc(turnPosets(), func(p impl.Poset) bool { return !relationOf(p.Less).isRanked() })
}

// unrankedPosets are the others.
func unrankedPosets() []impl.Poset {
	return slices.DeleteFunc(turnPosets(), func(p impl.Poset) bool { return relationOf(p.Less).isRanked() })
}

// notRanks are no ranks of a poset that has so many of them.
func notRanks(count int) []int {
	return []int{-1, -2, -count, count, count + 1, 10, 40, 41, 63, 64, -64, 1 << 32, -1 << 32, 1<<32 + 1, 1 << 62, math.MaxInt, math.MinInt}
}

// wordsOfRanks are words of at most 40 ranks for a poset that has so many of them.
func wordsOfRanks(count int) [][]int {
	words := slices.DeleteFunc(someWords(count), func(word []int) bool { return len(word) > 40 })
	return append(words, longWord(count, 39), longWord(count, 40))
}

// longWord has ranks of which some stand several times in turn.
func longWord(count, length int) []int {
	var word []int
	for k := range length {
		word = append(word, (k*k+k/3)%count)
	}
	return word
}
