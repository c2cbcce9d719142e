package tests

import (
	"math"
	"slices"
	"testing"

	"loop.example/g01138/impl"
)

func checkRows(t *testing.T, name string, want [][]int) func(got [][]int, ok bool) {
	return func(got [][]int, ok bool) {
		t.Helper()
		if !ok || !sameRows(got, want) {
			t.Errorf("%s = %v, %v, not %v", name, got, ok, want)
		}
	}
}

func TestChapter5Example(t *testing.T) {
	first, second := [][]int{{0, 1}, {2, 3}}, [][]int{{0, 2}, {1, 3}}
	checkList(t, "DescentsOf", []int{2})(impl.DescentsOf(first))
	checkList(t, "LinearOf", []int{0, 1, 2, 3})(impl.LinearOf(first))
	checkRows(t, "TableauOf", first)(impl.TableauOf(2, 2, []int{0, 1, 2, 3}))
	checkRows(t, "PromoteTableau", second)(impl.PromoteTableau(first))
	checkList(t, "DescentsOf", []int{1, 3})(impl.DescentsOf(second))
	checkRows(t, "PromoteTableau", first)(impl.PromoteTableau(second))
	checkNumber(t, "CountTableaux", 5)(impl.CountTableaux(2, 3))
	checkNumber(t, "CountStairs", 16)(impl.CountStairs(3))
}

// eachTableau calls body with all tableaux of all rectangles.
func eachTableau(body func(a, b int, rows [][]int)) {
	for _, sides := range allSides() {
		for _, rows := range tableauxOf(sides[0], sides[1]) {
			body(sides[0], sides[1], rows)
		}
	}
}

func TestTableauxAreLinearExtensions(t *testing.T) {
	for _, sides := range allSides() {
		a, b := sides[0], sides[1]
		p, _ := impl.Rectangle(a, b)
		var lines [][]int
		for _, rows := range tableauxOf(a, b) {
			if !impl.IsTableau(rows) {
				t.Errorf("%v is no tableau", rows)
			}
			w := linearIn(rows)
			lines = append(lines, w)
			checkList(t, "LinearOf", w)(impl.LinearOf(rows))
			checkRows(t, "TableauOf", rows)(impl.TableauOf(a, b, w))
		}
		// Each linear extension has one tableau.
		slices.SortFunc(lines, slices.Compare)
		checkRows(t, "AllLinear", lines)(impl.AllLinear(p))
		checkNumber(t, "CountLinear", len(lines))(impl.CountLinear(p))
	}
}

func TestKnownTableaux(t *testing.T) {
	for _, c := range []struct {
		w    []int
		rows [][]int
	}{
		{[]int{0, 3, 1, 4, 2, 5}, [][]int{{0, 2, 4}, {1, 3, 5}}},
		{[]int{0, 1, 3, 2, 4, 5}, [][]int{{0, 1, 3}, {2, 4, 5}}},
		{[]int{0, 1, 2, 4, 3, 5}, [][]int{{0, 1}, {2, 4}, {3, 5}}},
		{[]int{0, 2, 4, 1, 3, 5}, [][]int{{0, 3}, {1, 4}, {2, 5}}},
		{[]int{0, 5, 1, 2, 6, 7, 3, 8, 4, 9}, [][]int{{0, 2, 3, 6, 8}, {1, 4, 5, 7, 9}}},
	} {
		a, b := len(c.rows), len(c.rows[0])
		checkList(t, "LinearOf", c.w)(impl.LinearOf(c.rows))
		checkRows(t, "TableauOf", c.rows)(impl.TableauOf(a, b, c.w))
		// One row or one column too many.
		checkNoRows(t, "TableauOf")(impl.TableauOf(a+1, b, c.w))
		checkNoRows(t, "TableauOf")(impl.TableauOf(a, b+1, c.w))
	}
	// Sides that change places.
	checkNoRows(t, "TableauOf")(impl.TableauOf(2, 3, []int{0, 2, 1, 3, 4, 5}))
	checkRows(t, "TableauOf", [][]int{{0, 2}, {1, 3}, {4, 5}})(impl.TableauOf(3, 2, []int{0, 2, 1, 3, 4, 5}))
	checkRows(t, "TableauOf", [][]int{{0, 1, 2, 3}})(impl.TableauOf(1, 4, []int{0, 1, 2, 3}))
	checkRows(t, "TableauOf", [][]int{{0}, {1}, {2}, {3}})(impl.TableauOf(4, 1, []int{0, 1, 2, 3}))
	checkNoRows(t, "TableauOf")(impl.TableauOf(1, 4, []int{0, 2, 1, 3}))
	checkNoRows(t, "TableauOf")(impl.TableauOf(4, 1, []int{0, 2, 1, 3}))
}

// TestListsThatAreNoTableau gives lists that are no linear extension of a rectangle.
func TestListsThatAreNoTableau(t *testing.T) {
	for _, sides := range [][2]int{{1, 1}, {1, 2}, {2, 1}, {1, 3}, {3, 1}, {2, 2}, {1, 4}, {4, 1}} {
		for length := range 6 {
			eachList(length, -1, 4, func(w []int) { checkTableauOf(t, sides[0], sides[1], w) })
		}
	}
	for _, sides := range allSides() {
		a, b := sides[0], sides[1]
		for _, w := range rectangleOrder(a, b).linears() {
			for k := range w {
				checkTableauOf(t, a, b, w[:k])
				checkTableauOf(t, a, b, append(slices.Clone(w), w[k]))
				for _, e := range []int{-1, w[(k+1)%len(w)], len(w), 10, 63, 64, -64, 1 << 32, math.MaxInt, math.MinInt} {
					other := slices.Clone(w)
					other[k] = e
					checkTableauOf(t, a, b, other)
				}
				for j := range k {
					other := slices.Clone(w)
					other[j], other[k] = w[k], w[j]
					checkTableauOf(t, a, b, other)
				}
			}
		}
		checkNoRows(t, "TableauOf")(impl.TableauOf(a, b, make([]int, 100000)))
	}
}

func checkTableauOf(t *testing.T, a, b int, w []int) {
	t.Helper()
	got, ok := impl.TableauOf(a, b, w)
	if !rectangleOrder(a, b).isOrder(w) {
		checkNoRows(t, "TableauOf")(got, ok)
	} else {
		checkRows(t, "TableauOf", rowsAlong(a, b, w))(got, ok)
	}
}

// TestSmallRows gives all rows of up to 5 cells with numbers in -1..4 or -1..5, of equal and of unequal lengths.
func TestSmallRows(t *testing.T) {
	for _, lengths := range [][]int{
		{1}, {2}, {3}, {4}, {1, 1}, {2, 2}, {1, 1, 1}, {1, 1, 1, 1}, {5}, {1, 1, 1, 1, 1},
		{0}, {0, 0}, {0, 1}, {1, 0}, {1, 2}, {2, 1}, {1, 3}, {3, 1}, {1, 1, 2}, {2, 1, 1}, {1, 2, 1}, {0, 2, 2}, {2, 0, 2}, {2, 2, 0}, {2, 3}, {3, 2},
	} {
		size := 0
		for _, length := range lengths {
			size += length
		}
		eachList(size, -1, max(4, size), func(cells []int) {
			var rows [][]int
			for _, length := range lengths {
				rows = append(rows, cells[:length:length])
				cells = cells[length:]
			}
			checkIsTableau(t, rows)
		})
	}
}

// TestChangedTableaux gives rows that are nearly a tableau; some of them still are one.
func TestChangedTableaux(t *testing.T) {
	still := 0
	eachTableau(func(_, _ int, rows [][]int) {
		for _, other := range changedTableaux(rows) {
			checkIsTableau(t, other)
			if isTableauByDocument(other) {
				still++
			}
		}
	})
	if still == 0 {
		t.Error("no changed tableau is one")
	}
}

func TestRowsThatAreNoTableau(t *testing.T) {
	for _, rows := range noRows() {
		if isTableauByDocument(rows) {
			t.Errorf("%v is a tableau", rows)
		}
		checkIsTableau(t, rows)
	}
}

func checkIsTableau(t *testing.T, rows [][]int) {
	t.Helper()
	want := isTableauByDocument(rows)
	if got := impl.IsTableau(rows); got != want {
		t.Errorf("IsTableau(%v) = %v", rows, got)
	}
	if !want {
		checkNoTableau(t, rows)
	}
}

// checkNoTableau gives rows that are none to all functions that require one.
func checkNoTableau(t *testing.T, rows [][]int) {
	t.Helper()
	checkNoList(t, "LinearOf")(impl.LinearOf(rows))
	checkNoRows(t, "PromoteTableau")(impl.PromoteTableau(rows))
	checkNoRows(t, "EvacuateTableau")(impl.EvacuateTableau(rows))
	checkNoRows(t, "TurnTableau")(impl.TurnTableau(rows))
	checkNoList(t, "DescentsOf")(impl.DescentsOf(rows))
	checkNoNumber(t, "MajorOf")(impl.MajorOf(rows))
	checkNoList(t, "LatticeWord")(impl.LatticeWord(rows))
}

func TestHooks(t *testing.T) {
	for _, sides := range allSides() {
		a, b := sides[0], sides[1]
		for r := -2; r <= a+2; r++ {
			for c := -2; c <= b+2; c++ {
				got, ok := impl.HookOf(a, b, r, c)
				if r < 0 || r >= a || c < 0 || c >= b {
					checkNoNumber(t, "HookOf")(got, ok)
				} else {
					checkNumber(t, "HookOf", hookCells(a, b, r, c))(got, ok)
				}
			}
		}
		// The corners.
		checkNumber(t, "HookOf", a+b-1)(impl.HookOf(a, b, 0, 0))
		checkNumber(t, "HookOf", a)(impl.HookOf(a, b, 0, b-1))
		checkNumber(t, "HookOf", b)(impl.HookOf(a, b, a-1, 0))
		checkNumber(t, "HookOf", 1)(impl.HookOf(a, b, a-1, b-1))
		for _, far := range []int{10, 11, 1 << 32, math.MaxInt, math.MinInt, -1 << 32} {
			checkNoNumber(t, "HookOf")(impl.HookOf(a, b, far, 0))
			checkNoNumber(t, "HookOf")(impl.HookOf(a, b, 0, far))
			checkNoNumber(t, "HookOf")(impl.HookOf(a, b, far, far))
		}
	}
}

func TestCountTableaux(t *testing.T) {
	for _, sides := range allSides() {
		a, b := sides[0], sides[1]
		checkNumber(t, "CountTableaux", len(tableauxOf(a, b)))(impl.CountTableaux(a, b))
	}
	for sides, want := range map[[2]int]int{
		{1, 1}: 1, {1, 10}: 1, {10, 1}: 1, {2, 2}: 2, {2, 3}: 5, {3, 2}: 5, {2, 4}: 14, {4, 2}: 14, {2, 5}: 42, {5, 2}: 42, {3, 3}: 42,
	} {
		checkNumber(t, "CountTableaux", want)(impl.CountTableaux(sides[0], sides[1]))
	}
}

func TestSidesOfNoTableau(t *testing.T) {
	for _, sides := range noSides() {
		a, b := sides[0], sides[1]
		checkNoNumber(t, "CountTableaux")(impl.CountTableaux(a, b))
		checkNoList(t, "MajorTable")(impl.MajorTable(a, b))
		for _, k := range []int{0, 1, -1, a - 1, b - 1, math.MaxInt, math.MinInt} {
			checkNoNumber(t, "HookOf")(impl.HookOf(a, b, k, 0))
			checkNoNumber(t, "HookOf")(impl.HookOf(a, b, 0, k))
			checkNoNumber(t, "HookOf")(impl.HookOf(a, b, k, k))
		}
		for size := range 16 {
			checkNoRows(t, "TableauOf")(impl.TableauOf(a, b, promotionPlaces(size+1)))
		}
	}
}

func TestPromotionOfTableaux(t *testing.T) {
	eachTableau(func(a, b int, rows [][]int) {
		want := promotedByToggles(rows)
		if other := promotedBySlides(rows); !sameRows(want, other) {
			t.Errorf("%v is promoted to %v by toggles and to %v by slides", rows, want, other)
		}
		got, ok := impl.PromoteTableau(rows)
		checkRows(t, "PromoteTableau", want)(got, ok)
		// It is promotion of the linear extension.
		p, _ := impl.Rectangle(a, b)
		line, _ := impl.LinearOf(rows)
		promoted, _ := impl.PromoteLinear(p, line, 1)
		checkList(t, "LinearOf", promoted)(impl.LinearOf(got))
		for range a*b - 1 {
			got, _ = impl.PromoteTableau(got)
		}
		checkRows(t, "PromoteTableau a b times", rows)(got, true)
	})
}

func TestKnownPromotionsOfTableaux(t *testing.T) {
	for _, c := range [][2][][]int{
		{{{0, 1, 2}, {3, 4, 5}}, {{0, 1, 4}, {2, 3, 5}}},
		{{{0, 1, 3}, {2, 4, 5}}, {{0, 2, 4}, {1, 3, 5}}},
		{{{0, 2, 4}, {1, 3, 5}}, {{0, 1, 3}, {2, 4, 5}}},
		{{{0, 1}, {2, 3}, {4, 5}}, {{0, 2}, {1, 4}, {3, 5}}},
		{{{0, 3}, {1, 4}, {2, 5}}, {{0, 2}, {1, 3}, {4, 5}}},
		{{{0, 1, 2}, {3, 4, 5}, {6, 7, 8}}, {{0, 1, 4}, {2, 3, 7}, {5, 6, 8}}},
		{{{0, 3, 6}, {1, 4, 7}, {2, 5, 8}}, {{0, 2, 5}, {1, 3, 6}, {4, 7, 8}}},
		{{{0, 2, 5}, {1, 4, 7}, {3, 6, 8}}, {{0, 1, 4}, {2, 3, 6}, {5, 7, 8}}},
	} {
		checkRows(t, "PromoteTableau", c[1])(impl.PromoteTableau(c[0]))
	}
}

func TestEvacuationOfTableaux(t *testing.T) {
	eachTableau(func(a, b int, rows [][]int) {
		got, ok := impl.EvacuateTableau(rows)
		checkRows(t, "EvacuateTableau", turnedByHalf(rows))(got, ok)
		checkRows(t, "EvacuateTableau by toggles", changedAs(rows, evacuationPlaces(a*b)))(got, ok)
		checkRows(t, "EvacuateTableau twice", rows)(impl.EvacuateTableau(got))
		p, _ := impl.Rectangle(a, b)
		line, _ := impl.LinearOf(rows)
		evacuated, _ := impl.EvacuateLinear(p, line)
		checkList(t, "LinearOf", evacuated)(impl.LinearOf(got))
	})
	checkRows(t, "EvacuateTableau", [][]int{{0, 2, 3}, {1, 4, 5}})(impl.EvacuateTableau([][]int{{0, 1, 4}, {2, 3, 5}}))
	checkRows(t, "EvacuateTableau", [][]int{{0, 3}, {1, 4}, {2, 5}})(impl.EvacuateTableau([][]int{{0, 3}, {1, 4}, {2, 5}}))
}

func TestTurnedTableaux(t *testing.T) {
	eachTableau(func(a, b int, rows [][]int) {
		got, ok := impl.TurnTableau(rows)
		checkRows(t, "TurnTableau", exchanged(rows))(got, ok)
		checkRows(t, "TurnTableau twice", rows)(impl.TurnTableau(got))
		if !impl.IsTableau(got) || len(got) != b || len(got[0]) != a {
			t.Errorf("TurnTableau(%v) = %v", rows, got)
		}
		// Each number is in a later row than the one before, or in a later column.
		descents, _ := impl.DescentsOf(rows)
		others, _ := impl.DescentsOf(got)
		both := slices.Sorted(slices.Values(slices.Concat(descents, others)))
		if !slices.Equal(both, promotionPlaces(a*b + 1)[1:]) {
			t.Errorf("%v has the descents %v, and %v the descents %v", rows, descents, got, others)
		}
		// Promotion slides in the same way, however it is turned.
		promoted, _ := impl.PromoteTableau(rows)
		turned, _ := impl.TurnTableau(promoted)
		checkRows(t, "PromoteTableau of the turned one", turned)(impl.PromoteTableau(got))
	})
	checkRows(t, "TurnTableau", [][]int{{0, 3}, {1, 4}, {2, 5}})(impl.TurnTableau([][]int{{0, 1, 2}, {3, 4, 5}}))
}

func TestDescentsMoveAlong(t *testing.T) {
	eachTableau(func(a, b int, rows [][]int) {
		descents, ok := impl.DescentsOf(rows)
		checkList(t, "DescentsOf", descentsIn(rows))(descents, ok)
		major := 0
		for _, k := range descents {
			major += k
		}
		checkNumber(t, "MajorOf", major)(impl.MajorOf(rows))
		promoted, _ := impl.PromoteTableau(rows)
		later, _ := impl.DescentsOf(promoted)
		for k := 1; k <= a*b-2; k++ {
			if slices.Contains(later, k) != slices.Contains(descents, k+1) {
				t.Errorf("%v has the descents %v, and behind promotion %v", rows, descents, later)
			}
		}
	})
}

func TestKnownDescents(t *testing.T) {
	for _, c := range []struct {
		rows     [][]int
		descents []int
		major    int
	}{
		{[][]int{{0, 1, 2}, {3, 4, 5}}, []int{3}, 3},
		{[][]int{{0, 1, 3}, {2, 4, 5}}, []int{2, 4}, 6},
		{[][]int{{0, 2, 4}, {1, 3, 5}}, []int{1, 3, 5}, 9},
		{[][]int{{0, 3}, {1, 4}, {2, 5}}, []int{1, 2, 4, 5}, 12},
		{[][]int{{0, 1}, {2, 3}, {4, 5}}, []int{2, 4}, 6},
		// From the first row to the last one, and back to the one between.
		{[][]int{{0, 1, 4}, {2, 5, 7}, {3, 6, 8}}, []int{2, 3, 5, 6, 8}, 24},
	} {
		checkList(t, "DescentsOf", c.descents)(impl.DescentsOf(c.rows))
		checkNumber(t, "MajorOf", c.major)(impl.MajorOf(c.rows))
	}
}

func TestMajorTable(t *testing.T) {
	for _, sides := range allSides() {
		a, b := sides[0], sides[1]
		counts := map[int]int{}
		greatest := 0
		for _, rows := range tableauxOf(a, b) {
			major := 0
			for _, k := range descentsIn(rows) {
				major += k
			}
			counts[major]++
			greatest = max(greatest, major)
		}
		want := make([]int, greatest+1)
		for major, count := range counts {
			want[major] = count
		}
		checkList(t, "MajorTable", want)(impl.MajorTable(a, b))
	}
}

func TestKnownMajorTables(t *testing.T) {
	for n := 1; n <= 10; n++ {
		// One tableau, without descents or with all of them.
		checkList(t, "MajorTable of a row", []int{1})(impl.MajorTable(1, n))
		column := make([]int, n*(n-1)/2+1)
		column[n*(n-1)/2] = 1
		checkList(t, "MajorTable of a column", column)(impl.MajorTable(n, 1))
	}
	checkList(t, "MajorTable", []int{0, 0, 1, 0, 1})(impl.MajorTable(2, 2))
	checkList(t, "MajorTable", []int{0, 0, 0, 1, 0, 1, 1, 1, 0, 1})(impl.MajorTable(2, 3))
	checkList(t, "MajorTable", []int{0, 0, 0, 0, 0, 0, 1, 0, 1, 1, 1, 0, 1})(impl.MajorTable(3, 2))
	checkList(t, "MajorTable", []int{0, 0, 0, 0, 1, 0, 1, 1, 2, 1, 2, 1, 2, 1, 1, 0, 1})(impl.MajorTable(2, 4))
}

func TestLatticeWords(t *testing.T) {
	eachTableau(func(_, _ int, rows [][]int) {
		want := make([]int, len(rows)*len(rows[0]))
		for k := range want {
			want[k], _ = cellOf(rows, k)
		}
		if !isLattice(want) {
			t.Errorf("%v is no lattice word", want)
		}
		checkList(t, "LatticeWord", want)(impl.LatticeWord(rows))
		checkRows(t, "FromLattice", rows)(impl.FromLattice(want))
	})
	for n := 1; n <= 10; n++ {
		// One row, and one column.
		row, column := make([]int, n), promotionPlaces(n+1)
		checkList(t, "LatticeWord of a row", row)(impl.LatticeWord([][]int{column}))
		checkRows(t, "FromLattice of a row", [][]int{column})(impl.FromLattice(row))
		checkList(t, "LatticeWord of a column", column)(impl.LatticeWord(cut(column, 1)))
		checkRows(t, "FromLattice of a column", cut(column, 1))(impl.FromLattice(column))
	}
	checkRows(t, "FromLattice", [][]int{{0, 1, 4}, {2, 5, 7}, {3, 6, 8}})(impl.FromLattice([]int{0, 0, 1, 2, 0, 1, 2, 1, 2}))
	checkRows(t, "FromLattice", [][]int{{0, 2, 3, 6, 8}, {1, 4, 5, 7, 9}})(impl.FromLattice([]int{0, 1, 0, 0, 1, 1, 0, 1, 0, 1}))
}

// TestWordsThatAreNoLatticeWord tries all short lists, long ones of few numbers, and lists that are nearly one.
func TestWordsThatAreNoLatticeWord(t *testing.T) {
	for length := range 6 {
		eachList(length, -2, 6, func(word []int) { checkLattice(t, word) })
	}
	for length := 6; length <= 12; length++ {
		eachList(length, 0, 1, func(word []int) { checkLattice(t, word) })
	}
	for length := 6; length <= 9; length++ {
		eachList(length, 0, 2, func(word []int) { checkLattice(t, word) })
	}
	eachTableau(func(_, _ int, rows [][]int) {
		word, _ := impl.LatticeWord(rows)
		for k := range word {
			checkLattice(t, word[:k])
			checkLattice(t, word[k:])
			for _, r := range []int{-1, 0, 1, 2, word[k] - 1, word[k] + 1, 9, 10, 11, 63, 64, -64, 1 << 32, -1 << 32, 1 << 62, math.MaxInt, math.MinInt} {
				other := slices.Clone(word)
				other[k] = r
				checkLattice(t, other)
				checkLattice(t, slices.Insert(slices.Clone(word), k, r))
			}
		}
	})
	for _, length := range []int{11, 12, 100, 100000} {
		checkNoRows(t, "FromLattice")(impl.FromLattice(make([]int, length)))
		checkNoRows(t, "FromLattice")(impl.FromLattice(promotionPlaces(length + 1)))
	}
}

func checkLattice(t *testing.T, word []int) {
	t.Helper()
	got, ok := impl.FromLattice(word)
	if !isLattice(word) {
		checkNoRows(t, "FromLattice")(got, ok)
		return
	}
	checkRows(t, "FromLattice", rowsOfWord(word))(got, ok)
	checkList(t, "LatticeWord", word)(impl.LatticeWord(got))
}

func TestStairs(t *testing.T) {
	for n := 1; n <= 4; n++ {
		p, _ := impl.Staircase(n)
		r := relationOf(p.Less)
		checkNumber(t, "CountStairs", len(r.linears()))(impl.CountStairs(n))
		lengths := linearLengths(r.linearOrbits())
		slices.Sort(lengths)
		for _, length := range lengths {
			if n*(n+1)%length != 0 {
				t.Errorf("an orbit of the stairs of %d has %d", n, length)
			}
		}
		if got, ok := impl.StairOf(n); n == 4 {
			checkNoList(t, "StairOf")(got, ok)
		} else {
			checkList(t, "StairOf", lengths)(got, ok)
		}
	}
	for n, want := range []int{0, 1, 2, 16, 768} {
		if n > 0 {
			checkNumber(t, "CountStairs", want)(impl.CountStairs(n))
		}
	}
	for n, want := range [][]int{nil, {1}, {2}, {4, 12}} {
		if n > 0 {
			checkList(t, "StairOf", want)(impl.StairOf(n))
		}
	}
}

func TestStairsThatAreNotThere(t *testing.T) {
	for _, n := range []int{0, -1, -2, -3, -4, 5, 6, 10, 100, 1 << 32, -1 << 32, math.MaxInt, math.MinInt} {
		checkNoNumber(t, "CountStairs")(impl.CountStairs(n))
		checkNoList(t, "StairOf")(impl.StairOf(n))
	}
}

func TestOneCell(t *testing.T) {
	rows, w := [][]int{{0}}, []int{0}
	if !impl.IsTableau(rows) {
		t.Error("one cell is no tableau")
	}
	checkRows(t, "TableauOf", rows)(impl.TableauOf(1, 1, w))
	checkList(t, "LinearOf", w)(impl.LinearOf(rows))
	checkNumber(t, "HookOf", 1)(impl.HookOf(1, 1, 0, 0))
	checkNumber(t, "CountTableaux", 1)(impl.CountTableaux(1, 1))
	checkNumber(t, "CountStairs", 1)(impl.CountStairs(1))
	checkRows(t, "PromoteTableau", rows)(impl.PromoteTableau(rows))
	checkRows(t, "EvacuateTableau", rows)(impl.EvacuateTableau(rows))
	checkRows(t, "TurnTableau", rows)(impl.TurnTableau(rows))
	checkList(t, "DescentsOf", nil)(impl.DescentsOf(rows))
	checkNumber(t, "MajorOf", 0)(impl.MajorOf(rows))
	checkList(t, "MajorTable", []int{1})(impl.MajorTable(1, 1))
	checkList(t, "LatticeWord", []int{0})(impl.LatticeWord(rows))
	checkRows(t, "FromLattice", rows)(impl.FromLattice([]int{0}))
	checkList(t, "StairOf", []int{1})(impl.StairOf(1))
}

func TestOneRowAndOneColumn(t *testing.T) {
	for n := 2; n <= 10; n++ {
		up := promotionPlaces(n + 1)
		row, column := [][]int{up}, cut(up, 1)
		for _, rows := range [][][]int{row, column} {
			if !impl.IsTableau(rows) {
				t.Errorf("%v is no tableau", rows)
			}
			checkList(t, "LinearOf", up)(impl.LinearOf(rows))
			checkRows(t, "TableauOf", rows)(impl.TableauOf(len(rows), len(rows[0]), up))
			checkRows(t, "PromoteTableau", rows)(impl.PromoteTableau(rows))
			checkRows(t, "EvacuateTableau", rows)(impl.EvacuateTableau(rows))
		}
		checkRows(t, "TurnTableau", column)(impl.TurnTableau(row))
		checkRows(t, "TurnTableau", row)(impl.TurnTableau(column))
		checkList(t, "DescentsOf a row", nil)(impl.DescentsOf(row))
		checkList(t, "DescentsOf a column", up[1:])(impl.DescentsOf(column))
		checkNumber(t, "MajorOf a row", 0)(impl.MajorOf(row))
		checkNumber(t, "MajorOf a column", n*(n-1)/2)(impl.MajorOf(column))
	}
}
