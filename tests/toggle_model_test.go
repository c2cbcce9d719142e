package tests

import (
	"math/big"
	"slices"
)

// What the second chapter says of toggles and rowmotion, once more, on the tables of model_test.go.

func (r relation) ideals() []int { return r.setsWhere(r.isIdeal) }

func (r relation) toggled(s, e int) int {
	other := s + power(e)
	if in(e, s) {
		other = s - power(e)
	}
	if r.isIdeal(other) {
		return other
	}
	return s
}

func (r relation) toggledAt(s int, word []int) int {
	for _, e := range word {
		s = r.toggled(s, e)
	}
	return s
}

// lowestOutside has the elements outside of which no other one outside is less.
func (r relation) lowestOutside(s int) int {
	lowest := 0
	for e := range r {
		isLowest := !in(e, s)
		for f := range r {
			if !in(f, s) && r[f][e] {
				isLowest = false
			}
		}
		if isLowest {
			lowest += power(e)
		}
	}
	return lowest
}

// rows has rowmotion of all ideals: what those share that have all the lowest elements outside.
func (r relation) rows() map[int]int {
	next := map[int]int{}
	ideals := r.ideals()
	for _, s := range ideals {
		lowest, shared := r.lowestOutside(s), power(len(r))-1
		for _, other := range ideals {
			if other&lowest == lowest {
				shared &= other
			}
		}
		next[s] = shared
	}
	return next
}

func (r relation) topOf(s int) int {
	top := 0
	for e := range r {
		isTop := in(e, s)
		for f := range r {
			if in(f, s) && r[e][f] {
				isTop = false
			}
		}
		if isTop {
			top += power(e)
		}
	}
	return top
}

func (r relation) isOrder(list []int) bool {
	if len(list) != len(r) {
		return false
	}
	for e := range r {
		if !slices.Contains(list, e) {
			return false
		}
	}
	for place, e := range list {
		for _, f := range list[place:] {
			if r[f][e] {
				return false
			}
		}
	}
	return true
}

// eachArrangement calls body with all arrangements of 0..n - 1.
func eachArrangement(n int, body func(list []int)) {
	var fill func(list []int)
	fill = func(list []int) {
		if len(list) == n {
			body(list)
			return
		}
		for e := range n {
			if !slices.Contains(list, e) {
				fill(append(list[:len(list):len(list)], e))
			}
		}
	}
	fill(nil)
}

func (r relation) orders() [][]int {
	var list [][]int
	eachArrangement(len(r), func(order []int) {
		if r.isOrder(order) {
			list = append(list, order)
		}
	})
	return list
}

// cycleLengths follows each ideal until it is back.
func (r relation) cycleLengths(change func(s int) int) []int {
	var lengths, seen []int
	for _, first := range r.ideals() {
		if slices.Contains(seen, first) {
			continue
		}
		length := 1
		seen = append(seen, first)
		for s := change(first); s != first; s = change(s) {
			seen = append(seen, s)
			length++
		}
		lengths = append(lengths, length)
	}
	return lengths
}

// leastMultiple is as large as it is.
func leastMultiple(lengths []int) *big.Int {
	multiple := big.NewInt(1)
	for _, length := range lengths {
		x := big.NewInt(int64(length))
		common := new(big.Int).GCD(nil, nil, multiple, x)
		multiple.Mul(multiple, x.Div(x, common))
	}
	return multiple
}

// promotionWord has the elements in the order of promotion; forward or not says in which way equal ones stand.
func promotionWord(a, b int, forward bool) []int {
	var word []int
	for d := 1 - a; d <= b-1; d++ {
		var equal []int
		for r := range a {
			for c := range b {
				if c-r == d {
					equal = append(equal, b*r+c)
				}
			}
		}
		if !forward {
			slices.Reverse(equal)
		}
		word = append(word, equal...)
	}
	return word
}

// someOrders returns orders of any poset, as it has too many to try them all.
func (r relation) someOrders() [][]int {
	up := make([]int, len(r))
	for e := range r {
		up[e] = e
	}
	// Always the greatest number that can come next.
	var greedy []int
	for len(greedy) < len(r) {
		for e := len(r) - 1; e >= 0; e-- {
			next := !slices.Contains(greedy, e)
			for f := range r {
				if r[f][e] && !slices.Contains(greedy, f) {
					next = false
				}
			}
			if next {
				greedy = append(greedy, e)
				break
			}
		}
	}
	byHeight := slices.Clone(up)
	slices.SortStableFunc(byHeight, func(d, e int) int { return r.height(d) - r.height(e) })
	return [][]int{up, greedy, byHeight}
}

// someWords returns words of n elements, some of which toggle at one several times in turn.
func someWords(n int) [][]int {
	var up, down, mixed, doubled []int
	for e := range n {
		up = append(up, e)
		down = append(down, n-1-e)
		doubled = append(doubled, e, e)
	}
	for k := range 17 {
		mixed = append(mixed, (k*k*5+k*3+k/4)%n)
	}
	longest := slices.Repeat([]int{0, n - 1, n / 2, n / 3}, 25)
	words := [][]int{nil, {}, {0}, {n - 1}, up, down, mixed, doubled, longest}
	if n >= 3 {
		words = append(words, []int{1, 0, 2, 1}, []int{2, 0, 0, 1, 2, 1, 0})
	}
	return words
}
