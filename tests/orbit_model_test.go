package tests

import (
	"math/big"
	"slices"
	"strings"
)

// What the third chapter says of orbits and averages, once more, on the tables of model_test.go.

// orbitIn follows an ideal until one is there again.
func orbitIn(next map[int]int, s int) []int {
	var orbit []int
	for !slices.Contains(orbit, s) {
		orbit = append(orbit, s)
		s = next[s]
	}
	return orbit
}

// orbitsIn looks at all ideals, from the least one on.
func (r relation) orbitsIn(next map[int]int) [][]int {
	var orbits [][]int
	var seen []int
	for _, s := range r.ideals() {
		if !slices.Contains(seen, s) {
			orbits = append(orbits, orbitIn(next, s))
			seen = append(seen, orbitIn(next, s)...)
		}
	}
	return orbits
}

// promotions has promotion of all ideals of the rectangle of a and b.
func (r relation) promotions(a, b int) map[int]int {
	next := map[int]int{}
	for _, s := range r.ideals() {
		next[s] = r.toggledAt(s, promotionWord(a, b, true))
	}
	return next
}

func lengthsOf(orbits [][]int) []int {
	var lengths []int
	for _, orbit := range orbits {
		lengths = append(lengths, len(orbit))
	}
	return lengths
}

func (r relation) sizeOf(s int) int {
	size := 0
	for e := range r {
		if in(e, s) {
			size++
		}
	}
	return size
}

func (r relation) topSizeOf(s int) int { return r.sizeOf(r.topOf(s)) }

func sumBy(sets []int, count func(s int) int) int {
	sum := 0
	for _, s := range sets {
		sum += count(s)
	}
	return sum
}

func meanBy(sets []int, count func(s int) int) *big.Rat {
	return big.NewRat(int64(sumBy(sets, count)), int64(len(sets)))
}

// isEvenBy compares each orbit with each other one.
func isEvenBy(orbits [][]int, count func(s int) int) bool {
	for _, one := range orbits {
		for _, other := range orbits {
			if meanBy(one, count).Cmp(meanBy(other, count)) != 0 {
				return false
			}
		}
	}
	return true
}

// fixedIn counts the ideals that k steps lead back.
func fixedIn(next map[int]int, k int) int {
	fixed := 0
	for first := range next {
		s := first
		for range k {
			s = next[s]
		}
		if s == first {
			fixed++
		}
	}
	return fixed
}

func fileSumsOf(a, b int, orbit []int) []int {
	var sums []int
	for d := 1 - a; d <= b-1; d++ {
		sum := 0
		for _, s := range orbit {
			for r := range a {
				for c := range b {
					if c-r == d && in(b*r+c, s) {
						sum++
					}
				}
			}
		}
		sums = append(sums, sum)
	}
	return sums
}

// textsOver returns all texts of so many of the letters.
func textsOver(letters string, length int) []string {
	texts := []string{""}
	for range length {
		var longer []string
		for _, text := range texts {
			for _, letter := range letters {
				longer = append(longer, text+string(letter))
			}
		}
		texts = longer
	}
	return texts
}

// borderWords has the ideal of each word of b letters R and a letters U, as its letters U tell the lengths of the rows.
func borderWords(a, b int) map[string]int {
	ideals := map[string]int{}
	for _, word := range textsOver("RU", a+b) {
		if strings.Count(word, "U") != a {
			continue
		}
		s := 0
		// Behind the last U there is no row any more.
		parts := strings.Split(word, "U")
		for k := range a {
			length := len(strings.Join(parts[:k+1], ""))
			for c := range length {
				s += power(b*(a-1-k) + c)
			}
		}
		ideals[word] = s
	}
	return ideals
}

// smallSides returns the sides of all rectangles of up to 9 elements.
func smallSides() [][2]int {
	var list [][2]int
	for a := 1; a <= 9; a++ {
		for b := 1; a*b <= 9; b++ {
			list = append(list, [2]int{a, b})
		}
	}
	return list
}

// badSides are those of no rectangle, and of some with more than 9 elements.
func badSides() [][2]int {
	const large = 1 << 32
	const max, least = 1<<63 - 1, -1 << 63
	return [][2]int{
		{1, 10}, {10, 1}, {2, 5}, {5, 2}, {3, 4}, {4, 3}, {1, 11}, {11, 1}, {4, 4}, {9, 9}, {100, 100},
		{0, 0}, {0, 1}, {1, 0}, {-1, 1}, {1, -1}, {-1, -1}, {-3, -3}, {0, 9}, {9, 0},
		{large, large}, {large, 1}, {1, large}, {1 << 62, 4}, {3, 1 << 62}, {max, 1}, {1, max}, {max, max}, {2, max},
		{least, 1}, {1, least}, {least, least}, {least, max}, {-1, least}, {0, max}, {0, least},
	}
}
