package tests

import (
	"slices"

	"loop.example/g01138/impl"
)

// What the fourth chapter says of linear extensions, once more, on the tables of model_test.go.

// linears returns all linear extensions, those with lesser numbers first.
func (r relation) linears() [][]int {
	var list [][]int
	var fill func(w []int)
	fill = func(w []int) {
		if len(w) == len(r) {
			list = append(list, w)
			return
		}
		for e := range r {
			if !slices.Contains(w, e) && r.isBehindLesser(w, e) {
				fill(append(w[:len(w):len(w)], e))
			}
		}
	}
	fill(nil)
	return list
}

// isBehindLesser says whether all that are less than e stand in a list.
func (r relation) isBehindLesser(w []int, e int) bool {
	for f := range r {
		if r[f][e] && !slices.Contains(w, f) {
			return false
		}
	}
	return true
}

func (r relation) listToggled(w []int, i int) []int {
	other := slices.Clone(w)
	if !r[w[i]][w[i+1]] && !r[w[i+1]][w[i]] {
		other[i], other[i+1] = w[i+1], w[i]
	}
	return other
}

func (r relation) listToggledAt(w []int, places []int) []int {
	for _, i := range places {
		w = r.listToggled(w, i)
	}
	return w
}

// promotionPlaces are 0, 1, .., n - 2.
func promotionPlaces(n int) []int {
	var places []int
	for i := 0; i <= n-2; i++ {
		places = append(places, i)
	}
	return places
}

// evacuationPlaces are 0, .., n - 2, then 0, .., n - 3, and so on, and 0 at last.
func evacuationPlaces(n int) []int {
	var places []int
	for size := n; size >= 2; size-- {
		places = append(places, promotionPlaces(size)...)
	}
	return places
}

// coevacuationPlaces are n - 2, .., 0, then n - 2, .., 1, and so on, and n - 2 at last.
func coevacuationPlaces(n int) []int {
	var places []int
	for first := 0; first <= n-2; first++ {
		for i := n - 2; i >= first; i-- {
			places = append(places, i)
		}
	}
	return places
}

// slideOf looks for the next element of the chain in the whole list each time.
func (r relation) slideOf(w []int) []int {
	chain := []int{w[0]}
	for {
		last := chain[len(chain)-1]
		next := slices.IndexFunc(w, func(e int) bool { return r.covered(last, e) })
		if next < 0 {
			return chain
		}
		chain = append(chain, w[next])
	}
}

// slid is promotion without toggles: each element of the chain takes the place of the next one, one to the left as all
// others do, and the last element of the chain comes to the end.
func (r relation) slid(w []int) []int {
	other := make([]int, len(w))
	for place, e := range w {
		if place > 0 {
			other[place-1] = e
		}
	}
	chain := r.slideOf(w)
	for k, e := range chain {
		place := len(w)
		if k+1 < len(chain) {
			place = slices.Index(w, chain[k+1])
		}
		other[place-1] = e
	}
	return other
}

// linearOrbit follows a list by a change until it is there again.
func linearOrbit(w []int, change func(w []int) []int) [][]int {
	orbit := [][]int{w}
	for next := change(w); !slices.Equal(next, w); next = change(next) {
		orbit = append(orbit, next)
	}
	return orbit
}

// linearOrbits returns the orbits of promotion, each from its first linear extension on.
func (r relation) linearOrbits() [][][]int {
	var orbits [][][]int
	seen := map[[10]int]bool{}
	for _, w := range r.linears() {
		if seen[keyOf(w)] {
			continue
		}
		orbit := linearOrbit(w, r.slid)
		for _, member := range orbit {
			seen[keyOf(member)] = true
		}
		orbits = append(orbits, orbit)
	}
	return orbits
}

func keyOf(w []int) [10]int {
	var key [10]int
	copy(key[:], w)
	return key
}

func linearLengths(orbits [][][]int) []int {
	var lengths []int
	for _, orbit := range orbits {
		lengths = append(lengths, len(orbit))
	}
	return lengths
}

// leftBy counts the lists that a change leaves as they are.
func leftBy(lists [][]int, change func(w []int) []int) int {
	left := 0
	for _, w := range lists {
		if slices.Equal(change(w), w) {
			left++
		}
	}
	return left
}

func chainOf(n int) impl.Poset {
	less := make([]int, n)
	for i := range less {
		less[i] = power(i) - 1
	}
	return impl.Poset{Less: less}
}

// linearPosets are all posets of up to 5 elements and some of up to 10, with at most 1385 linear extensions each.
func linearPosets() []impl.Poset {
	var list []impl.Poset
	for n := 1; n <= 5; n++ {
		list = append(list, everyPoset(n)...)
	}
	for n := 1; n <= 10; n++ {
		list = append(list, chainOf(n))
		if fence, _ := impl.Fence(n); n <= 8 {
			list = append(list, fence)
		}
		if stairs, ok := impl.Staircase(n); ok {
			list = append(list, stairs)
		}
		for m := 1; n*m <= 10; m++ {
			rectangle, _ := impl.Rectangle(n, m)
			list = append(list, rectangle)
		}
	}
	// Not ranked, of 6 and more elements.
	list = append(list, posetWith(6, [2]int{0, 1}, [2]int{1, 3}, [2]int{3, 5}, [2]int{0, 2}, [2]int{2, 5}, [2]int{4, 5}))
	list = append(list, posetWith(7, [2]int{0, 1}, [2]int{1, 2}, [2]int{2, 6}, [2]int{3, 6}, [2]int{4, 5}))
	list = append(list, posetWith(8, [2]int{0, 3}, [2]int{1, 3}, [2]int{1, 4}, [2]int{3, 5}, [2]int{2, 7}, [2]int{5, 7}, [2]int{4, 7}, [2]int{0, 6}))
	return append(list, pentagon())
}

// posetWith returns the poset of n elements with some relations and all that follow.
func posetWith(n int, pairs ...[2]int) impl.Poset {
	r := emptyRelation(n)
	for _, pair := range pairs {
		r[pair[0]][pair[1]] = true
	}
	return r.closed().poset()
}

// notPlaces are no places at which lists of n elements can be toggled.
func notPlaces(n int) []int {
	return []int{-1, -2, n - 1, n, n + 1, 63, 64, -64, 1 << 32, -1 << 32, 1<<63 - 1, -1 << 63}
}
