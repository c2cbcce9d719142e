package tests

import (
	"math"
	"slices"
	"testing"

	"loop.example/g01138/impl"
)

func TestChapter9Example(t *testing.T) {
	p := mustParse(t, "4:0<1,0<2,1<3,2<3")
	checkList(t, "RanksOf", []int{1, 6, 8})(impl.RanksOf(p))
	checkList(t, "RowvacuationWord", []int{2, 1, 0, 2, 1, 2})(impl.RowvacuationWord(p))
	checkNumber(t, "Rowvacuation", 15)(impl.Rowvacuation(p, 0))
	over := []int{0, 0, 1, 1, 7, 15}
	for k, want := range over {
		checkNumber(t, "ToggleRanks", want)(impl.ToggleRanks(p, 0, []int{2, 1, 0, 2, 1, 2}[:k+1]))
	}
	checkNumber(t, "GyrateIdeal", 7)(impl.GyrateIdeal(p, 0))
	checkNumber(t, "ToggleRanks", 1)(impl.ToggleRanks(p, 0, []int{0, 2}))
}

func TestLimitsOfChapter9(t *testing.T) {
	if impl.MaxRanks != 40 {
		t.Errorf("MaxRanks = %d", impl.MaxRanks)
	}
}

func TestRanks(t *testing.T) {
	for _, p := range rankedPosets() {
		var want []int
		for _, elements := range relationOf(p.Less).rankLists() {
			want = append(want, setOf(elements))
		}
		checkList(t, "RanksOf", want)(impl.RanksOf(p))
		for _, rank := range want {
			checkAnswer(t, "IsAntichain", true)(impl.IsAntichain(p, rank))
		}
	}
}

func TestKnownRanks(t *testing.T) {
	for text, want := range map[string][]int{
		"1:-":                       {1},
		"10:-":                      {1023},
		"3:0<1,1<2":                 {1, 2, 4},
		"3:0<1":                     {5, 2},
		"3:0<2,1<2":                 {3, 4},
		"5:0<3,1<3,1<4,2<4":         {7, 24},
		"6:0<1,0<2,1<3,1<4,2<4,3<5": {1, 6, 24, 32},
		"6:0<2,1<3,2<4":             {35, 12, 16},
	} {
		checkList(t, "RanksOf", want)(impl.RanksOf(mustParse(t, text)))
	}
}

// TestRanksAreToggled has each rank of each ideal, with its elements in both orders.
func TestRanksAreToggled(t *testing.T) {
	for _, p := range rankedPosets() {
		r := relationOf(p.Less)
		for i, elements := range r.rankLists() {
			for s, want := range r.along([]int{i}) {
				checkNumber(t, "ToggleRank", want)(impl.ToggleRank(p, s, i))
				checkNumber(t, "ToggleRank twice", s)(impl.ToggleRank(p, want, i))
				checkNumber(t, "ToggleRanks", want)(impl.ToggleRanks(p, s, []int{i}))
				checkNumber(t, "ToggleWord", want)(impl.ToggleWord(p, s, elements))
				checkNumber(t, "ToggleWord", want)(impl.ToggleWord(p, s, turnedRound(elements)))
			}
		}
	}
}

// TestElementsOfARankInAnyOrder toggles them in all orders.
func TestElementsOfARankInAnyOrder(t *testing.T) {
	for _, p := range []impl.Poset{antichainOf(5), mustParse(t, "5:0<1,0<2,0<3,0<4"), mustParse(t, "8:0<4,1<4,1<5,2<5,2<6,3<6,3<7")} {
		for i, elements := range relationOf(p.Less).rankLists() {
			ideals, _ := impl.IdealsOf(p)
			eachArrangement(len(elements), func(places []int) {
				var word []int
				for _, place := range places {
					word = append(word, elements[place])
				}
				for _, s := range ideals {
					want, _ := impl.ToggleWord(p, s, word)
					checkNumber(t, "ToggleRank", want)(impl.ToggleRank(p, s, i))
				}
			})
		}
	}
}

func TestRanksThatAreNotThere(t *testing.T) {
	for _, p := range rankedPosets() {
		ranks, _ := impl.RanksOf(p)
		h := len(ranks) - 1
		full := power(len(p.Less)) - 1
		for _, s := range []int{0, 1, full} {
			for _, i := range []int{0, h} {
				if _, ok := impl.ToggleRank(p, s, i); !ok {
					t.Errorf("ToggleRank(%v, %d, %d) fails", p, s, i)
				}
			}
			for _, i := range notRanks(h + 1) {
				checkNoNumber(t, "ToggleRank")(impl.ToggleRank(p, s, i))
				for _, word := range [][]int{{i}, {0, i}, {i, 0}, {0, h, i, 0}, append(make([]int, 39), i)} {
					checkNoNumber(t, "ToggleRanks")(impl.ToggleRanks(p, s, word))
				}
			}
		}
	}
}

func TestWordsOfRanks(t *testing.T) {
	for _, p := range rankedPosets() {
		r := relationOf(p.Less)
		for _, word := range wordsOfRanks(len(r.rankLists())) {
			for s, want := range r.along(word) {
				checkNumber(t, "ToggleRanks", want)(impl.ToggleRanks(p, s, word))
				checkNumber(t, "ToggleRanks back", s)(impl.ToggleRanks(p, want, turnedRound(word)))
			}
		}
	}
}

func TestWordsAtMaxRanks(t *testing.T) {
	for _, p := range append(longPosets(), antichainOf(1), antichainOf(10), mustParse(t, "4:0<1,0<2,1<3,2<3")) {
		r := relationOf(p.Less)
		count := len(r.rankLists())
		for _, s := range r.ideals() {
			checkNumber(t, "ToggleRanks", s)(impl.ToggleRanks(p, s, nil))
			checkNumber(t, "ToggleRanks", s)(impl.ToggleRanks(p, s, []int{}))
			checkNumber(t, "ToggleRanks", s)(impl.ToggleRanks(p, s, make([]int, 40)))
			once := r.toggledAt(s, r.rankLists()[0])
			checkNumber(t, "ToggleRanks", once)(impl.ToggleRanks(p, s, make([]int, 39)))
			for _, word := range [][]int{make([]int, 41), make([]int, 42), longWord(count, 41), longWord(count, 100), longWord(count, 101)} {
				checkNoNumber(t, "ToggleRanks")(impl.ToggleRanks(p, s, word))
			}
		}
		for _, length := range []int{41, 1000, 100000} {
			checkNoNumber(t, "ToggleRanks")(impl.ToggleRanks(p, 0, make([]int, length)))
		}
	}
}

func TestRowmotionByRanks(t *testing.T) {
	for _, p := range rankedPosets() {
		for s, want := range relationOf(p.Less).rows() {
			checkNumber(t, "RowByRanks", want)(impl.RowByRanks(p, s))
			checkNumber(t, "Rowmotion", want)(impl.Rowmotion(p, s))
		}
	}
}

// TestRowvacuation has all ranked posets of up to 6 elements, too.
func TestRowvacuation(t *testing.T) {
	for _, p := range append(rankedPosets(), everyPoset(6)...) {
		r := relationOf(p.Less)
		if !r.isRanked() {
			continue
		}
		h := len(r.rankLists()) - 1
		for s, want := range r.along(vacuationWord(h)) {
			checkNumber(t, "Rowvacuation", want)(impl.Rowvacuation(p, s))
		}
		for s, want := range r.along(dualVacuationWord(h)) {
			checkNumber(t, "DualRowvacuation", want)(impl.DualRowvacuation(p, s))
			checkVacuations(t, p, s, h)
		}
	}
}

// checkVacuations asks for what the document promises of both vacuations together.
func checkVacuations(t *testing.T, p impl.Poset, s, h int) {
	t.Helper()
	next, _ := impl.Rowmotion(p, s)
	for _, vacuation := range []func(p impl.Poset, s int) (int, bool){impl.Rowvacuation, impl.DualRowvacuation} {
		other, _ := vacuation(p, s)
		checkAnswer(t, "IsIdeal", true)(impl.IsIdeal(p, other))
		checkNumber(t, "vacuation twice", s)(vacuation(p, other))
		behind, _ := vacuation(p, next)
		checkNumber(t, "Rowmotion behind vacuation behind Rowmotion", other)(impl.Rowmotion(p, behind))
	}
	first, _ := impl.Rowvacuation(p, s)
	forth, _ := impl.RowmotionTimes(p, s, h+2)
	checkNumber(t, "both vacuations", forth)(impl.DualRowvacuation(p, first))
	second, _ := impl.DualRowvacuation(p, s)
	back, _ := impl.RowmotionTimes(p, s, -h-2)
	checkNumber(t, "both vacuations the other way", back)(impl.Rowvacuation(p, second))
}

func TestWordsOfRowvacuation(t *testing.T) {
	for _, p := range rankedPosets() {
		r := relationOf(p.Less)
		h := len(r.rankLists()) - 1
		want := vacuationWord(h)
		got, ok := impl.RowvacuationWord(p)
		if len(want) > 40 {
			checkNoList(t, "RowvacuationWord")(got, ok)
			continue
		}
		checkList(t, "RowvacuationWord", want)(got, ok)
		for _, s := range r.ideals() {
			other, _ := impl.ToggleRanks(p, s, got)
			checkNumber(t, "Rowvacuation", other)(impl.Rowvacuation(p, s))
		}
	}
}

// TestWordsOfRowvacuationAtMaxRanks has 8 ranks, whose word has 36 of them, and 9 ranks, whose word would have 45.
func TestWordsOfRowvacuationAtMaxRanks(t *testing.T) {
	lengths := map[int]int{}
	for _, p := range longPosets() {
		ranks, _ := impl.RanksOf(p)
		word, ok := impl.RowvacuationWord(p)
		lengths[len(ranks)]++
		if len(ranks) == 8 && (!ok || len(word) != 36) || len(ranks) > 8 && (ok || word != nil) {
			t.Errorf("RowvacuationWord(%v) = %v, %v", p, word, ok)
		}
		// The limit is one of words alone.
		if s, ok := impl.Rowvacuation(p, 0); !ok || s == 0 {
			t.Errorf("Rowvacuation(%v, 0) = %d, %v", p, s, ok)
		}
		if s, ok := impl.DualRowvacuation(p, 0); !ok || s == 0 {
			t.Errorf("DualRowvacuation(%v, 0) = %d, %v", p, s, ok)
		}
		if _, ok := impl.FixedByRowvacuation(p); !ok {
			t.Errorf("FixedByRowvacuation(%v) fails", p)
		}
	}
	if lengths[8] < 3 || lengths[9] < 3 || lengths[10] < 1 {
		t.Errorf("posets by their ranks: %v", lengths)
	}
}

func TestFixedByRowvacuation(t *testing.T) {
	for _, p := range append(rankedPosets(), everyPoset(6)...) {
		r := relationOf(p.Less)
		if !r.isRanked() {
			continue
		}
		next := r.along(vacuationWord(len(r.rankLists()) - 1))
		want := slices.DeleteFunc(r.ideals(), func(s int) bool { return next[s] != s })
		checkList(t, "FixedByRowvacuation", want)(impl.FixedByRowvacuation(p))
	}
}

func TestKnownFixedIdeals(t *testing.T) {
	for text, want := range map[string][]int{
		"1:-":                                    nil,
		"2:-":                                    nil,
		"10:-":                                   nil,
		"2:0<1":                                  {1},
		"3:0<1,1<2":                              nil,
		"4:0<1,1<2,2<3":                          {3},
		"8:0<1,1<2,2<3,3<4,4<5,5<6,6<7":          {15},
		"9:0<1,1<2,2<3,3<4,4<5,5<6,6<7,7<8":      nil,
		"10:0<1,1<2,2<3,3<4,4<5,5<6,6<7,7<8,8<9": {31},
		"4:0<1,0<2,1<3,2<3":                      {3, 5},
	} {
		checkList(t, "FixedByRowvacuation of "+text, want)(impl.FixedByRowvacuation(mustParse(t, text)))
	}
}

func TestGyration(t *testing.T) {
	for _, p := range append(rankedPosets(), everyPoset(6)...) {
		r := relationOf(p.Less)
		if !r.isRanked() {
			continue
		}
		next := r.along(gyrationWord(len(r.rankLists()) - 1))
		for s, want := range next {
			checkNumber(t, "GyrateIdeal", want)(impl.GyrateIdeal(p, s))
			checkNumber(t, "GyrateBack", s)(impl.GyrateBack(p, want))
		}
		lengths := r.sortedLengths(next)
		checkList(t, "GyrationLengths", lengths)(impl.GyrationLengths(p))
		checkList(t, "SortedLengths", lengths)(impl.SortedLengths(p))
	}
}

// TestEvenAndOddRanks has ranks of one kind in any order.
func TestEvenAndOddRanks(t *testing.T) {
	p := chainOf(7)
	for s := range relationOf(p.Less).rows() {
		want, _ := impl.ToggleRanks(p, s, []int{6, 2, 0, 4, 3, 5, 1})
		checkNumber(t, "GyrateIdeal", want)(impl.GyrateIdeal(p, s))
		before, _ := impl.ToggleRanks(p, s, []int{5, 1, 3, 0, 4, 6, 2})
		checkNumber(t, "GyrateBack", before)(impl.GyrateBack(p, s))
	}
	for s, want := range map[int]int{0: 3, 3: 15, 15: 63, 63: 127, 127: 31, 31: 7, 7: 1, 1: 0} {
		checkNumber(t, "GyrateIdeal", want)(impl.GyrateIdeal(p, s))
	}
}

func TestSortedLengths(t *testing.T) {
	for _, p := range turnPosets() {
		r := relationOf(p.Less)
		want := r.sortedLengths(r.rows())
		checkList(t, "SortedLengths", want)(impl.SortedLengths(p))
		// No ideal is what rowmotion makes of it: what is outside lowest comes in, and of all elements none stays.
		if want[0] < 2 {
			t.Errorf("%v has orbits of the lengths %v", p, want)
		}
	}
}

func TestKnownLengths(t *testing.T) {
	for text, want := range map[string][]int{
		"1:-":                                    {2},
		"2:-":                                    {2, 2},
		"3:-":                                    {2, 2, 2, 2},
		"2:0<1":                                  {3},
		"3:0<1,1<2":                              {4},
		"3:0<1":                                  {6},
		"3:0<1,0<2":                              {2, 3},
		"4:0<1,0<2,1<3,2<3":                      {2, 4},
		"10:0<1,1<2,2<3,3<4,4<5,5<6,6<7,7<8,8<9": {11},
	} {
		p := mustParse(t, text)
		checkList(t, "SortedLengths of "+text, want)(impl.SortedLengths(p))
		checkList(t, "GyrationLengths of "+text, want)(impl.GyrationLengths(p))
	}
	// Not ranked, and with another order of OrbitLengths in two of them.
	for text, want := range map[string][]int{"5:0<1,0<2,1<4,2<3,3<4": {8}, "5:0<2,0<4,1<3,3<4": {3, 8}, "5:0<2,0<3,1<4,2<4,3<4": {2, 2, 7}} {
		checkList(t, "SortedLengths of "+text, want)(impl.SortedLengths(mustParse(t, text)))
	}
}

func TestDualIdeals(t *testing.T) {
	for _, p := range turnPosets() {
		r := relationOf(p.Less)
		q := r.turned().poset()
		for _, s := range r.ideals() {
			dual, ok := impl.DualIdeal(p, s)
			checkNumber(t, "DualIdeal", r.dualOfSet(s))(dual, ok)
			checkAnswer(t, "IsIdeal in the dual", true)(impl.IsIdeal(q, dual))
			checkNumber(t, "DualIdeal twice", s)(impl.DualIdeal(q, dual))
			for e := range r {
				other, _ := impl.ToggleAt(p, s, e)
				checkNumber(t, "ToggleAt in the dual", r.dualOfSet(other))(impl.ToggleAt(q, dual, len(r)-1-e))
			}
		}
	}
}

// TestRowmotionOnDuals has rowmotion in the dual by the document's words, and by the program.
func TestRowmotionOnDuals(t *testing.T) {
	for _, p := range turnPosets() {
		r := relationOf(p.Less)
		q := r.turned()
		rows := q.rows()
		for s, next := range r.rows() {
			got, ok := impl.RowOnDual(p, next)
			checkNumber(t, "RowOnDual", r.dualOfSet(s))(got, ok)
			checkNumber(t, "RowOnDual", rows[r.dualOfSet(next)])(got, ok)
			dual, _ := impl.DualIdeal(p, next)
			checkNumber(t, "Rowmotion in the dual", got)(impl.Rowmotion(q.poset(), dual))
		}
	}
}

func TestKnownDualIdeals(t *testing.T) {
	// A poset that is its own dual, and two that are duals of each other.
	square, fork, join := mustParse(t, "4:0<1,0<2,1<3,2<3"), mustParse(t, "3:0<1,0<2"), mustParse(t, "3:0<2,1<2")
	for s, want := range map[int]int{0: 15, 1: 7, 3: 3, 5: 5, 7: 1, 15: 0} {
		checkNumber(t, "DualIdeal", want)(impl.DualIdeal(square, s))
	}
	for s, want := range map[int]int{0: 7, 1: 3, 3: 1, 5: 2, 7: 0} {
		checkNumber(t, "DualIdeal", want)(impl.DualIdeal(fork, s))
		checkNumber(t, "DualIdeal", s)(impl.DualIdeal(join, want))
	}
	for s, want := range map[int]int{0: 0, 1: 7, 3: 2, 5: 1, 7: 3} {
		checkNumber(t, "RowOnDual", want)(impl.RowOnDual(fork, s))
	}
	for s, want := range map[int]int{0: 0, 1: 15, 3: 5, 5: 3, 7: 7, 15: 1} {
		checkNumber(t, "RowOnDual", want)(impl.RowOnDual(square, s))
	}
	checkNumber(t, "DualIdeal", 512)(impl.DualIdeal(antichainOf(10), 1022))
	checkNumber(t, "DualIdeal", 1)(impl.DualIdeal(antichainOf(10), 511))
}

// TestVacuationsOnDuals has posets whose ranks are those of the dual, from the last one to the first one.
func TestVacuationsOnDuals(t *testing.T) {
	own, others := 0, 0
	for _, p := range rankedPosets() {
		r := relationOf(p.Less)
		if !r.risesEvenly() {
			continue
		}
		q := r.turned().poset()
		if slices.Equal(p.Less, q.Less) {
			own++
		} else {
			others++
		}
		for _, s := range r.ideals() {
			dual := r.dualOfSet(s)
			first, _ := impl.Rowvacuation(p, s)
			checkNumber(t, "DualRowvacuation in the dual", r.dualOfSet(first))(impl.DualRowvacuation(q, dual))
			second, _ := impl.DualRowvacuation(p, s)
			checkNumber(t, "Rowvacuation in the dual", r.dualOfSet(second))(impl.Rowvacuation(q, dual))
		}
	}
	if own == 0 || others == 0 {
		t.Errorf("%d posets are their own duals, %d are not", own, others)
	}
}

// TestChainsByRanks has as many ranks as elements.
func TestChainsByRanks(t *testing.T) {
	for n := 1; n <= 10; n++ {
		p := chainOf(n)
		var ranks []int
		for e := range n {
			ranks = append(ranks, power(e))
		}
		checkList(t, "RanksOf", ranks)(impl.RanksOf(p))
		for k := range n + 1 {
			s, other := power(k)-1, power(n-k)-1
			checkNumber(t, "Rowvacuation", other)(impl.Rowvacuation(p, s))
			checkNumber(t, "DualRowvacuation", other)(impl.DualRowvacuation(p, s))
			checkNumber(t, "RowByRanks", power((k+1)%(n+1))-1)(impl.RowByRanks(p, s))
			checkNumber(t, "DualIdeal", other)(impl.DualIdeal(p, s))
			checkNumber(t, "RowOnDual", power((n-k+1)%(n+1))-1)(impl.RowOnDual(p, s))
			for i := range n {
				want, _ := impl.ToggleAt(p, s, i)
				checkNumber(t, "ToggleRank", want)(impl.ToggleRank(p, s, i))
			}
		}
		// One orbit of all ideals.
		checkList(t, "SortedLengths", []int{n + 1})(impl.SortedLengths(p))
		checkList(t, "GyrationLengths", []int{n + 1})(impl.GyrationLengths(p))
	}
}

// TestAntichainsByRanks has one rank.
func TestAntichainsByRanks(t *testing.T) {
	for n := 1; n <= 10; n++ {
		p := antichainOf(n)
		full := power(n) - 1
		checkList(t, "RanksOf", []int{full})(impl.RanksOf(p))
		checkList(t, "RowvacuationWord", []int{0})(impl.RowvacuationWord(p))
		checkList(t, "FixedByRowvacuation", nil)(impl.FixedByRowvacuation(p))
		lengths := slices.Repeat([]int{2}, power(n-1))
		checkList(t, "SortedLengths", lengths)(impl.SortedLengths(p))
		checkList(t, "GyrationLengths", lengths)(impl.GyrationLengths(p))
		for s := range power(n) {
			checkNumber(t, "ToggleRank", full-s)(impl.ToggleRank(p, s, 0))
			for name, f := range idealFunctions() {
				if name != "DualIdeal" && name != "RowOnDual" {
					checkNumber(t, name, full-s)(f(p, s))
				}
			}
		}
	}
}

// idealFunctions take a poset and an ideal alone.
func idealFunctions() map[string]func(p impl.Poset, s int) (int, bool) {
	return map[string]func(p impl.Poset, s int) (int, bool){
		"RowByRanks":       impl.RowByRanks,
		"Rowvacuation":     impl.Rowvacuation,
		"DualRowvacuation": impl.DualRowvacuation,
		"GyrateIdeal":      impl.GyrateIdeal,
		"GyrateBack":       impl.GyrateBack,
		"DualIdeal":        impl.DualIdeal,
		"RowOnDual":        impl.RowOnDual,
	}
}

func TestOneElementByRanks(t *testing.T) {
	p := antichainOf(1)
	for s, want := range []int{1, 0} {
		for name, f := range idealFunctions() {
			if name == "RowOnDual" {
				// RowmotionBack leads to the other ideal, whose dual ideal is this one.
				checkNumber(t, name, s)(f(p, s))
			} else {
				checkNumber(t, name, want)(f(p, s))
			}
		}
		checkNumber(t, "ToggleRank", want)(impl.ToggleRank(p, s, 0))
		checkNumber(t, "ToggleRanks", want)(impl.ToggleRanks(p, s, []int{0, 0, 0}))
	}
	for _, s := range notSetsOf(1) {
		checkNotByRanks(t, p, s)
		checkNotOnDual(t, p, s)
	}
}

// checkNotByRanks gives fitting other arguments, so that it is the poset or the ideal that makes a call fail.
func checkNotByRanks(t *testing.T, p impl.Poset, s int) {
	t.Helper()
	for name, f := range idealFunctions() {
		if name != "DualIdeal" && name != "RowOnDual" {
			checkNoNumber(t, name)(f(p, s))
		}
	}
	checkNoNumber(t, "ToggleRank")(impl.ToggleRank(p, s, 0))
	for _, word := range [][]int{nil, {0}, {0, 0}, make([]int, 40)} {
		checkNoNumber(t, "ToggleRanks")(impl.ToggleRanks(p, s, word))
	}
}

func checkNotOnDual(t *testing.T, p impl.Poset, s int) {
	t.Helper()
	checkNoNumber(t, "DualIdeal")(impl.DualIdeal(p, s))
	checkNoNumber(t, "RowOnDual")(impl.RowOnDual(p, s))
}

func TestSetsWithoutRanks(t *testing.T) {
	for _, p := range turnPosets() {
		r := relationOf(p.Less)
		for s := range power(len(r)) {
			if !r.isIdeal(s) {
				checkNotByRanks(t, p, s)
				checkNotOnDual(t, p, s)
			}
		}
		for _, s := range notSetsOf(len(r)) {
			checkNotByRanks(t, p, s)
			checkNotOnDual(t, p, s)
		}
	}
}

// TestPosetsWithoutRanks has posets that are not ranked, of which some functions of the chapter ask for no ranks.
func TestPosetsWithoutRanks(t *testing.T) {
	if len(unrankedPosets()) < 20 {
		t.Errorf("%d posets that are not ranked", len(unrankedPosets()))
	}
	for _, p := range unrankedPosets() {
		checkNoRanksOf(t, p)
		r := relationOf(p.Less)
		for _, s := range r.ideals() {
			checkNotByRanks(t, p, s)
			for name, f := range map[string]func(p impl.Poset, s int) (int, bool){"DualIdeal": impl.DualIdeal, "RowOnDual": impl.RowOnDual} {
				if _, ok := f(p, s); !ok {
					t.Errorf("%s(%v, %d) fails", name, p, s)
				}
			}
		}
		if lengths, ok := impl.SortedLengths(p); !ok || len(lengths) == 0 {
			t.Errorf("SortedLengths(%v) = %v, %v", p, lengths, ok)
		}
	}
}

func checkNoRanksOf(t *testing.T, p impl.Poset) {
	t.Helper()
	checkNoList(t, "RanksOf")(impl.RanksOf(p))
	checkNoList(t, "RowvacuationWord")(impl.RowvacuationWord(p))
	checkNoList(t, "FixedByRowvacuation")(impl.FixedByRowvacuation(p))
	checkNoList(t, "GyrationLengths")(impl.GyrationLengths(p))
}

func TestNoPosetsWithRanks(t *testing.T) {
	for _, p := range badPosets() {
		checkNoRanksOf(t, p)
		checkNoList(t, "SortedLengths")(impl.SortedLengths(p))
		for _, s := range append(notSetsOf(3), 0, 1, 3, 7) {
			checkNotByRanks(t, p, s)
			checkNotOnDual(t, p, s)
			for _, i := range []int{-1, 0, 1, 40, math.MaxInt, math.MinInt} {
				checkNoNumber(t, "ToggleRank")(impl.ToggleRank(p, s, i))
			}
		}
	}
}
