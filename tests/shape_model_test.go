package tests

import (
	"math"
	"slices"
)

// What the fifth chapter says of tableaux, once more, cell by cell.

// allSides are the sides of all rectangles.
func allSides() [][2]int {
	return append(smallSides(), sidesOfTen()...)
}

// sidesOfTen are those of the rectangles with just as many elements as there can be.
func sidesOfTen() [][2]int {
	return [][2]int{{1, 10}, {10, 1}, {2, 5}, {5, 2}}
}

// noSides are those of no rectangle; the products of some of them are in 1..10, or come there by wraparound.
func noSides() [][2]int {
	list := slices.DeleteFunc(badSides(), func(sides [2]int) bool { return slices.Contains(sidesOfTen(), sides) })
	return append(list, [][2]int{
		{2, 6}, {6, 2}, {5, 3}, {3, 5}, {1, 12}, {12, 1}, {10, 10}, {0, 10}, {10, 0}, {-1, -10}, {-10, -1}, {-2, -5}, {-2, -2},
		{3, 6148914691236517206}, {6148914691236517206, 3}, {math.MaxInt, math.MaxInt}, {1 << 61, 8},
	}...)
}

func isTableauByDocument(rows [][]int) bool {
	if len(rows) < 1 || len(rows) > 10 || len(rows[0]) < 1 || len(rows[0])*len(rows) > 10 {
		return false
	}
	for _, row := range rows {
		if len(row) != len(rows[0]) {
			return false
		}
	}
	for k := range len(rows) * len(rows[0]) {
		if !slices.Contains(slices.Concat(rows...), k) {
			return false
		}
	}
	for r, row := range rows {
		for c := range row {
			if c > 0 && row[c-1] >= row[c] || r > 0 && rows[r-1][c] >= row[c] {
				return false
			}
		}
	}
	return true
}

// tableauxOf fills the cells of a rows and b columns, one after the other, in all ways that rise.
func tableauxOf(a, b int) [][][]int {
	var list [][][]int
	var fill func(cells []int)
	fill = func(cells []int) {
		e := len(cells)
		if e == a*b {
			list = append(list, cut(cells, b))
			return
		}
		for k := range a * b {
			behindLeft := e%b == 0 || cells[e-1] < k
			behindAbove := e < b || cells[e-b] < k
			if behindLeft && behindAbove && !slices.Contains(cells, k) {
				fill(append(cells[:e:e], k))
			}
		}
	}
	fill(nil)
	return list
}

// cut returns rows of b cells.
func cut(cells []int, b int) [][]int {
	var rows [][]int
	for len(cells) > 0 {
		rows = append(rows, slices.Clone(cells[:b]))
		cells = cells[b:]
	}
	return rows
}

func copyOf(rows [][]int) [][]int {
	var other [][]int
	for _, row := range rows {
		other = append(other, slices.Clone(row))
	}
	return other
}

// cellOf returns the row and the column of a number.
func cellOf(rows [][]int, k int) (int, int) {
	for r, row := range rows {
		if c := slices.Index(row, k); c >= 0 {
			return r, c
		}
	}
	return -1, -1
}

// linearIn returns the elements at which the numbers are.
func linearIn(rows [][]int) []int {
	var w []int
	for k := range len(rows) * len(rows[0]) {
		r, c := cellOf(rows, k)
		w = append(w, len(rows[0])*r+c)
	}
	return w
}

// rowsAlong puts the numbers at the elements of a list.
func rowsAlong(a, b int, w []int) [][]int {
	cells := make([]int, a*b)
	for k, e := range w {
		cells[e] = k
	}
	return cut(cells, b)
}

// rectangleOrder has the elements of a rectangle with a rows and b columns.
func rectangleOrder(a, b int) relation {
	order := emptyRelation(a * b)
	for j := range order {
		for i := range order {
			order[j][i] = j != i && j/b <= i/b && j%b <= i%b
		}
	}
	return order
}

// changedAs returns the tableau of the linear extension of a tableau toggled at some places (chapter 4).
func changedAs(rows [][]int, places []int) [][]int {
	a, b := len(rows), len(rows[0])
	return rowsAlong(a, b, rectangleOrder(a, b).listToggledAt(linearIn(rows), places))
}

func promotedByToggles(rows [][]int) [][]int {
	return changedAs(rows, promotionPlaces(len(rows)*len(rows[0])))
}

// promotedBySlides gives the empty place a number that is not there, and exchanges it until nothing is behind it.
func promotedBySlides(rows [][]int) [][]int {
	const empty = -1
	other := copyOf(rows)
	r, c := 0, 0
	other[r][c] = empty
	for {
		least, s, d := len(rows)*len(rows[0]), r, c
		for _, next := range [][2]int{{r, c + 1}, {r + 1, c}} {
			if next[0] < len(rows) && next[1] < len(rows[0]) && other[next[0]][next[1]] < least {
				s, d = next[0], next[1]
				least = other[s][d]
			}
		}
		if s == r && d == c {
			break
		}
		other[r][c], other[s][d] = other[s][d], empty
		r, c = s, d
	}
	other[r][c] = len(rows) * len(rows[0])
	for _, row := range other {
		for c := range row {
			row[c]--
		}
	}
	return other
}

func turnedByHalf(rows [][]int) [][]int {
	cells := slices.Concat(rows...)
	slices.Reverse(cells)
	for e := range cells {
		cells[e] = len(cells) - 1 - cells[e]
	}
	return cut(cells, len(rows[0]))
}

// exchanged takes the columns as rows.
func exchanged(rows [][]int) [][]int {
	var other [][]int
	for c := range rows[0] {
		var column []int
		for _, row := range rows {
			column = append(column, row[c])
		}
		other = append(other, column)
	}
	return other
}

// descentsIn looks for each number in the rows behind that of the number before it.
func descentsIn(rows [][]int) []int {
	var descents []int
	for k := 1; k < len(rows)*len(rows[0]); k++ {
		before, _ := cellOf(rows, k-1)
		if slices.Contains(slices.Concat(rows[before+1:]...), k) {
			descents = append(descents, k)
		}
	}
	return descents
}

// isLattice says whether a list is the LatticeWord of some tableau.
func isLattice(word []int) bool {
	if len(word) < 1 || len(word) > 10 {
		return false
	}
	for length := 1; length <= len(word); length++ {
		for _, r := range word[:length] {
			if r < 0 || r > 0 && countOf(word[:length], r) > countOf(word[:length], r-1) {
				return false
			}
		}
	}
	for _, r := range word {
		if countOf(word, r) != countOf(word, 0) {
			return false
		}
	}
	return true
}

func countOf(list []int, number int) int {
	count := 0
	for _, x := range list {
		if x == number {
			count++
		}
	}
	return count
}

// rowsOfWord puts the indices of each number of a word into a row.
func rowsOfWord(word []int) [][]int {
	rows := make([][]int, slices.Max(word)+1)
	for k, r := range word {
		rows[r] = append(rows[r], k)
	}
	return rows
}

// hookCells counts the cells right of one, those below it, and itself.
func hookCells(a, b, r, c int) int {
	count := 0
	for s := range a {
		for d := range b {
			if s == r && d >= c || s > r && d == c {
				count++
			}
		}
	}
	return count
}

// eachList calls body with all lists of so many numbers in least..greatest.
func eachList(length, least, greatest int, body func(list []int)) {
	var fill func(list []int)
	fill = func(list []int) {
		if len(list) == length {
			body(list)
			return
		}
		for x := least; x <= greatest; x++ {
			fill(append(list[:len(list):len(list)], x))
		}
	}
	fill(nil)
}

// noRows are no tableaux, each for another reason.
func noRows() [][][]int {
	return [][][]int{
		// No rows, and empty ones.
		nil, {}, {nil}, {{}}, {{}, {}}, {nil, {0}}, {{0}, nil}, {{}, {0}, {1}}, {{0}, {1}, {}}, make([][]int, 10), make([][]int, 11), make([][]int, 1000),
		// Unequal lengths.
		{{0, 1}, {2}}, {{0}, {1, 2}}, {{0, 1}, {2, 3}, {4}}, {{0, 1}, {2}, {3, 4}}, {{0, 1, 2}, {3}}, {{0}, {1, 2, 3}}, {{0, 1}, {2, 3, 4}}, {{0, 1, 2}, {3, 4}, {5}},
		// Numbers that are twice there, or that should not be there.
		{{0, 0}}, {{0}, {0}}, {{0, 1}, {1, 2}}, {{0, 1}, {1, 3}}, {{0, 1}, {0, 1}}, {{0, 1}, {2, 2}}, {{0, 0}, {0, 0}}, {{0, 1, 1}},
		{{1}}, {{-1}}, {{10}}, {{63}}, {{64}}, {{1 << 32}}, {{math.MaxInt}}, {{math.MinInt}}, {{1, 2}}, {{0, 2}}, {{-1, 0}}, {{0}, {2}}, {{-1}, {0}},
		{{0, 1}, {2, 4}}, {{0, 1}, {3, 4}}, {{1, 2}, {3, 4}}, {{-1, 0}, {1, 2}}, {{0, math.MaxInt}}, {{math.MinInt, 0}}, {{0, 1}, {2, math.MaxInt}}, {{math.MinInt, 0}, {1, math.MaxInt}},
		// Rows or columns that do not rise.
		{{1, 0}}, {{1}, {0}}, {{0, 2, 1}}, {{0}, {2}, {1}}, {{1, 0}, {2, 3}}, {{0, 1}, {3, 2}}, {{3, 2}, {1, 0}},
		{{2, 3}, {0, 1}}, {{1, 3}, {0, 2}}, {{0, 3}, {1, 2}}, {{0, 2}, {3, 1}}, {{0, 1, 5}, {2, 3, 4}}, {{0, 5}, {1, 3}, {2, 4}}, {{0, 3}, {2, 1}},
		{{0, 1}, {4, 5}, {2, 3}}, {{1, 2, 3}, {0, 4, 5}},
		// More cells than MaxSize.
		{promotionPlaces(12)}, cut(promotionPlaces(12), 1), cut(promotionPlaces(13), 6), cut(promotionPlaces(13), 2), cut(promotionPlaces(13), 3), cut(promotionPlaces(13), 4),
		cut(promotionPlaces(101), 10), cut(promotionPlaces(101), 1), {promotionPlaces(1001)},
	}
}

// changedTableaux are rows that differ from a tableau in a number, in two of them, or in their length.
func changedTableaux(rows [][]int) [][][]int {
	var list [][][]int
	size := len(rows) * len(rows[0])
	change := func(by func(other [][]int) [][]int) { list = append(list, by(copyOf(rows))) }
	for j := range size {
		r, c := cellOf(rows, j)
		for _, number := range []int{-1, j - 1, j + 1, 0, size - 1, size, 10, 63, 64, 1 << 32, math.MaxInt, math.MinInt} {
			change(func(other [][]int) [][]int { other[r][c] = number; return other })
		}
		for k := range j {
			s, d := cellOf(rows, k)
			change(func(other [][]int) [][]int { other[r][c], other[s][d] = k, j; return other })
		}
	}
	for r := range rows {
		change(func(other [][]int) [][]int { other[r] = other[r][1:]; return other })
		change(func(other [][]int) [][]int { other[r] = other[r][:len(other[r])-1]; return other })
		change(func(other [][]int) [][]int { other[r] = append(other[r], size); return other })
		change(func(other [][]int) [][]int { other[r] = nil; return other })
		change(func(other [][]int) [][]int { return slices.Delete(other, r, r+1) })
		change(func(other [][]int) [][]int { return slices.Insert(other, r, other[r]) })
		change(func(other [][]int) [][]int { return slices.Insert(other, r, nil) })
	}
	return list
}
