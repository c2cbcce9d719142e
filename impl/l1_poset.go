package impl

import (
	"slices"
	"strconv"
	"strings"
)

const MaxSize = 10

// maxRelations bounds the list of FromCovers, and with it the work that a text can ask of ParsePoset.
const maxRelations = 100

type Poset struct {
	Less []int
}

// IsPoset reports whether p is a poset.
func IsPoset(p Poset) bool {
	if !isSize(len(p.Less)) {
		return false
	}
	// What is less is less as a number, too, so that the lists that under reads here have been looked at before.
	for i, below := range p.Less {
		if below < 0 || below > wholeSet(i) || !p.holdsIdeal(below) {
			return false
		}
	}
	return true
}

// CoversOf returns all pairs j, i for which j is covered by i, in lexicographic order.
func CoversOf(p Poset) ([][]int, bool) {
	if !IsPoset(p) {
		return nil, false
	}
	var pairs [][]int
	for j := range p.Less {
		for i := j + 1; i < len(p.Less); i++ {
			if hasElement(p.top(p.Less[i]), j) {
				pairs = append(pairs, []int{j, i})
			}
		}
	}
	return pairs, true
}

// FromCovers returns the poset of n elements which has at least the given relations, pairs j, i with j less than i as numbers, at most 100 of them, and no others than those that follow.
func FromCovers(n int, covers [][]int) (Poset, bool) {
	if !isSize(n) || len(covers) > maxRelations {
		return Poset{}, false
	}
	p := Poset{Less: make([]int, n)}
	for _, pair := range covers {
		if len(pair) != 2 || pair[0] < 0 || pair[0] >= pair[1] || pair[1] >= n {
			return Poset{}, false
		}
		p.Less[pair[1]] |= 1 << pair[0]
	}
	// In increasing order, as one step down is enough once the elements below are complete.
	for i := range p.Less {
		p.Less[i] |= p.under(p.Less[i])
	}
	return p, true
}

// IsIdeal reports whether a set is an ideal.
func IsIdeal(p Poset, s int) (bool, bool) {
	if !hasSet(p, s) {
		return false, false
	}
	return p.holdsIdeal(s), true
}

// IdealsOf returns all ideals.
func IdealsOf(p Poset) ([]int, bool) {
	if !IsPoset(p) {
		return nil, false
	}
	return setsOf(p, Poset.holdsIdeal), true
}

// CountIdeals returns how many there are.
func CountIdeals(p Poset) (int, bool) {
	ideals, ok := IdealsOf(p)
	return len(ideals), ok
}

// IdealOf returns the least ideal that has all elements of a set.
func IdealOf(p Poset, s int) (int, bool) {
	if !hasSet(p, s) {
		return 0, false
	}
	return s | p.under(s), true
}

// TopOf returns the elements of a set that are not less than another one of it.
func TopOf(p Poset, s int) (int, bool) {
	if !hasSet(p, s) {
		return 0, false
	}
	return p.top(s), true
}

// BottomOf returns those of which no other one in it is less.
func BottomOf(p Poset, s int) (int, bool) {
	if !hasSet(p, s) {
		return 0, false
	}
	bottom := 0
	for e, below := range p.Less {
		if hasElement(s, e) && below&s == 0 {
			bottom |= 1 << e
		}
	}
	return bottom, true
}

// IsAntichain reports whether a set is an antichain.
func IsAntichain(p Poset, s int) (bool, bool) {
	if !hasSet(p, s) {
		return false, false
	}
	return p.holdsAntichain(s), true
}

// AntichainsOf returns all antichains.
func AntichainsOf(p Poset) ([]int, bool) {
	if !IsPoset(p) {
		return nil, false
	}
	return setsOf(p, Poset.holdsAntichain), true
}

// HeightsOf returns the heights of all elements, in order.
func HeightsOf(p Poset) ([]int, bool) {
	if !IsPoset(p) {
		return nil, false
	}
	heights := make([]int, len(p.Less))
	for i, below := range p.Less {
		for j := range i {
			if hasElement(below, j) {
				heights[i] = max(heights[i], heights[j]+1)
			}
		}
	}
	return heights, true
}

// IsRanked reports whether a poset is ranked.
func IsRanked(p Poset) (bool, bool) {
	heights, ok := HeightsOf(p)
	if !ok {
		return false, false
	}
	covers, _ := CoversOf(p)
	for _, pair := range covers {
		if heights[pair[1]] != heights[pair[0]]+1 {
			return false, true
		}
	}
	return true, true
}

// DualOf returns the poset in which n - 1 - i stands for i, and which has the relations turned round.
func DualOf(p Poset) (Poset, bool) {
	if !IsPoset(p) {
		return Poset{}, false
	}
	last := len(p.Less) - 1
	return posetWhere(len(p.Less), func(j, i int) bool {
		return hasElement(p.Less[last-j], last-i)
	}), true
}

// SumOf returns the poset of the elements of p, and of q with the number of those of p added, and no other relations.
func SumOf(p Poset, q Poset) (Poset, bool) {
	if !fitTogether(p, q) {
		return Poset{}, false
	}
	moved := func(below int) int { return below << len(p.Less) }
	return Poset{Less: joined(p.Less, q.Less, moved)}, true
}

// StackOf returns the same with all elements of p less than all of q.
func StackOf(p Poset, q Poset) (Poset, bool) {
	if !fitTogether(p, q) {
		return Poset{}, false
	}
	raised := func(below int) int { return below<<len(p.Less) | wholeSet(len(p.Less)) }
	return Poset{Less: joined(p.Less, q.Less, raised)}, true
}

// Rectangle returns the poset of a times b elements, at least 1 of each; the element b r + c is less than or equal to b s + d if r is at most s and c at most d.
func Rectangle(a int, b int) (Poset, bool) {
	// A division, as the product of large sides wraps around.
	if a < 1 || b < 1 || b > MaxSize/a {
		return Poset{}, false
	}
	return posetWhere(a*b, func(j, i int) bool {
		return j/b <= i/b && j%b <= i%b
	}), true
}

// Staircase returns the poset of all pairs of numbers i < j in 0..n, n in 1..4, ordered by j - i and for equal ones by i: a pair is less than or equal to another one if it lies within.
func Staircase(n int) (Poset, bool) {
	if n < 1 || n > 4 {
		return Poset{}, false
	}
	var pairs [][2]int
	for width := 1; width <= n; width++ {
		for first := 0; first+width <= n; first++ {
			pairs = append(pairs, [2]int{first, first + width})
		}
	}
	return posetWhere(len(pairs), func(j, i int) bool {
		inner, outer := pairs[j], pairs[i]
		return outer[0] <= inner[0] && inner[1] <= outer[1]
	}), true
}

// Fence returns the poset of n elements, n in 1..MaxSize, in which the elements 0, 1, .., (n + 1) / 2 - 1 are the low ones and the others the high ones, and each high one, the h-th of them from 0 on, is greater than the low ones h and h + 1, if these are there.
func Fence(n int) (Poset, bool) {
	if !isSize(n) {
		return Poset{}, false
	}
	lows := (n + 1) / 2
	return posetWhere(n, func(j, i int) bool {
		high := i - lows
		return high >= 0 && j < lows && (j == high || j == high+1)
	}), true
}

// PosetText returns the number of elements, a :, and all covers, j<i, with , between them, or - for none.
func PosetText(p Poset) (string, bool) {
	covers, ok := CoversOf(p)
	if !ok {
		return "", false
	}
	list := "-"
	if len(covers) > 0 {
		parts := make([]string, 0, len(covers))
		for _, pair := range covers {
			parts = append(parts, strconv.Itoa(pair[0])+"<"+strconv.Itoa(pair[1]))
		}
		list = strings.Join(parts, ",")
	}
	return strconv.Itoa(len(p.Less)) + ":" + list, true
}

// ParsePoset returns the poset with a PosetText. It fails if there is none.
func ParsePoset(s string) (Poset, bool) {
	size, list, _ := strings.Cut(s, ":")
	n, err := strconv.Atoi(size)
	pairs, ok := relationsIn(list)
	if err != nil || !ok {
		return Poset{}, false
	}
	p, _ := FromCovers(n, pairs)
	// Each poset has one text: relations that are no covers, another order of them and zeros before a number make others.
	if text, ok := PosetText(p); !ok || text != s {
		return Poset{}, false
	}
	return p, true
}

// relationsIn reads the part of a PosetText behind the colon.
func relationsIn(list string) ([][]int, bool) {
	if list == "-" {
		return nil, true
	}
	var pairs [][]int
	// A text of more parts is none anyway, and may be very long.
	for _, part := range strings.SplitN(list, ",", maxRelations+1) {
		left, right, _ := strings.Cut(part, "<")
		j, wrongLeft := strconv.Atoi(left)
		i, wrongRight := strconv.Atoi(right)
		if wrongLeft != nil || wrongRight != nil {
			return nil, false
		}
		pairs = append(pairs, []int{j, i})
	}
	return pairs, true
}

// under returns all elements that are less than some element of s.
func (p Poset) under(s int) int {
	found := 0
	for e, below := range p.Less {
		if hasElement(s, e) {
			found |= below
		}
	}
	return found
}

func (p Poset) top(s int) int { return s &^ p.under(s) }

func (p Poset) holdsIdeal(s int) bool { return p.under(s)&^s == 0 }

func (p Poset) holdsAntichain(s int) bool { return p.under(s)&s == 0 }

// setsOf returns all sets of elements of a kind, increasing; a kind is told by a method expression of Poset.
func setsOf(p Poset, isKind func(Poset, int) bool) []int {
	var sets []int
	for s := range wholeSet(len(p.Less)) + 1 {
		if isKind(p, s) {
			sets = append(sets, s)
		}
	}
	return sets
}

// posetWhere returns the poset of n elements in which j is less than i if isLess says so, which is asked only for j less than i as numbers.
func posetWhere(n int, isLess func(j, i int) bool) Poset {
	less := make([]int, n)
	for i := range less {
		for j := range i {
			if isLess(j, i) {
				less[i] |= 1 << j
			}
		}
	}
	return Poset{Less: less}
}

// joined returns the items of the first list, and behind them those of the second one as change makes them.
func joined[T any](first, second []T, change func(T) T) []T {
	items := slices.Clone(first)
	for _, item := range second {
		items = append(items, change(item))
	}
	return items
}

func fitTogether(p, q Poset) bool {
	return IsPoset(p) && IsPoset(q) && isSize(len(p.Less)+len(q.Less))
}

func hasSet(p Poset, s int) bool {
	return IsPoset(p) && s >= 0 && s <= wholeSet(len(p.Less))
}

func hasElement(s, e int) bool { return s>>e&1 == 1 }

func wholeSet(n int) int { return 1<<n - 1 }

func isSize(n int) bool { return n >= 1 && n <= MaxSize }
