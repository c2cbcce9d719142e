package tests

import (
	"math"
	"reflect"
	"strconv"
	"strings"
	"testing"

	"loop.example/g01138/impl"
)

// chapterFunctions are the functions that promise 11 is tested for: each is called with all mixtures of the
// arguments of its types, by reflection.
func chapterFunctions() map[string]any {
	return map[string]any{
		"IsPoset":      impl.IsPoset,
		"CoversOf":     impl.CoversOf,
		"FromCovers":   impl.FromCovers,
		"IsIdeal":      impl.IsIdeal,
		"IdealsOf":     impl.IdealsOf,
		"CountIdeals":  impl.CountIdeals,
		"IdealOf":      impl.IdealOf,
		"TopOf":        impl.TopOf,
		"BottomOf":     impl.BottomOf,
		"IsAntichain":  impl.IsAntichain,
		"AntichainsOf": impl.AntichainsOf,
		"HeightsOf":    impl.HeightsOf,
		"IsRanked":     impl.IsRanked,
		"DualOf":       impl.DualOf,
		"SumOf":        impl.SumOf,
		"StackOf":      impl.StackOf,
		"Rectangle":    impl.Rectangle,
		"Staircase":    impl.Staircase,
		"Fence":        impl.Fence,
		"PosetText":    impl.PosetText,
		"ParsePoset":   impl.ParsePoset,

		"ToggleAt":       impl.ToggleAt,
		"ToggleWord":     impl.ToggleWord,
		"CanToggle":      impl.CanToggle,
		"Rowmotion":      impl.Rowmotion,
		"RowmotionBack":  impl.RowmotionBack,
		"RowmotionTimes": impl.RowmotionTimes,
		"RowByToggles":   impl.RowByToggles,
		"IsOrder":        impl.IsOrder,
		"CountOrders":    impl.CountOrders,
		"DoCommute":      impl.DoCommute,
		"ToggleCycles":   impl.ToggleCycles,
		"OrderOfWord":    impl.OrderOfWord,
		"AntichainRow":   impl.AntichainRow,
		"PromoteIdeal":   impl.PromoteIdeal,
		"PromoteTimes":   impl.PromoteTimes,

		"OrbitOf":         impl.OrbitOf,
		"AllOrbits":       impl.AllOrbits,
		"OrbitLengths":    impl.OrbitLengths,
		"OrderOfRow":      impl.OrderOfRow,
		"SizeOf":          impl.SizeOf,
		"OrbitSum":        impl.OrbitSum,
		"AntichainSum":    impl.AntichainSum,
		"ElementSum":      impl.ElementSum,
		"SizeIsEven":      impl.SizeIsEven,
		"AntichainIsEven": impl.AntichainIsEven,
		"MeanOfIdeals":    impl.MeanOfIdeals,
		"FixedIdeals":     impl.FixedIdeals,
		"PromotionOrbits": impl.PromotionOrbits,
		"FileSums":        impl.FileSums,
		"IdealWord":       impl.IdealWord,
		"FromWord":        impl.FromWord,

		"IsLinear":         impl.IsLinear,
		"CountLinear":      impl.CountLinear,
		"LinearWith":       impl.LinearWith,
		"RankLinear":       impl.RankLinear,
		"AllLinear":        impl.AllLinear,
		"ToggleLinear":     impl.ToggleLinear,
		"PromoteLinear":    impl.PromoteLinear,
		"EvacuateLinear":   impl.EvacuateLinear,
		"CoevacuateLinear": impl.CoevacuateLinear,
		"SlideOf":          impl.SlideOf,
		"PromotionOrbit":   impl.PromotionOrbit,
		"PromotionOrder":   impl.PromotionOrder,
		"DualLinear":       impl.DualLinear,
		"CountReturned":    impl.CountReturned,
		"SelfEvacuated":    impl.SelfEvacuated,

		"IsTableau":       impl.IsTableau,
		"TableauOf":       impl.TableauOf,
		"LinearOf":        impl.LinearOf,
		"HookOf":          impl.HookOf,
		"CountTableaux":   impl.CountTableaux,
		"CountStairs":     impl.CountStairs,
		"PromoteTableau":  impl.PromoteTableau,
		"EvacuateTableau": impl.EvacuateTableau,
		"TurnTableau":     impl.TurnTableau,
		"DescentsOf":      impl.DescentsOf,
		"MajorOf":         impl.MajorOf,
		"MajorTable":      impl.MajorTable,
		"LatticeWord":     impl.LatticeWord,
		"FromLattice":     impl.FromLattice,
		"StairOf":         impl.StairOf,

		"AreLabels":         impl.AreLabels,
		"AreStrict":         impl.AreStrict,
		"CountLabels":       impl.CountLabels,
		"CountStrict":       impl.CountStrict,
		"StepCounts":        impl.StepCounts,
		"LabelPolynomialAt": impl.LabelPolynomialAt,
		"LabelsWith":        impl.LabelsWith,
		"RankLabels":        impl.RankLabels,
		"LabelsBySum":       impl.LabelsBySum,
		"BoxCount":          impl.BoxCount,
		"BoxBySum":          impl.BoxBySum,
		"IdealsOfLabels":    impl.IdealsOfLabels,
		"LabelsOfIdeals":    impl.LabelsOfIdeals,
		"ComplementLabels":  impl.ComplementLabels,

		"GaussOf":              impl.GaussOf,
		"HookPolynomial":       impl.HookPolynomial,
		"RemaindersOf":         impl.RemaindersOf,
		"RootSum":              impl.RootSum,
		"ValueByRemainders":    impl.ValueByRemainders,
		"RowFixed":             impl.RowFixed,
		"PromotionFixed":       impl.PromotionFixed,
		"RowStabilizers":       impl.RowStabilizers,
		"PromotionStabilizers": impl.PromotionStabilizers,
		"OrbitsByRests":        impl.OrbitsByRests,
		"IsSieved":             impl.IsSieved,

		"IsArray":       impl.IsArray,
		"ToggleNumber":  impl.ToggleNumber,
		"ToggleNumbers": impl.ToggleNumbers,
		"RowArray":      impl.RowArray,
		"RowArrayBack":  impl.RowArrayBack,
		"RowArrayTimes": impl.RowArrayTimes,
		"ArrayOfIdeal":  impl.ArrayOfIdeal,
		"IdealOfArray":  impl.IdealOfArray,
		"LayersOf":      impl.LayersOf,
		"FromLayers":    impl.FromLayers,
		"AllArrays":     impl.AllArrays,
		"CountArrays":   impl.CountArrays,
		"ArrayOrbit":    impl.ArrayOrbit,
		"MirrorArray":   impl.MirrorArray,
		"RangeAt":       impl.RangeAt,

		"RanksOf":             impl.RanksOf,
		"ToggleRank":          impl.ToggleRank,
		"ToggleRanks":         impl.ToggleRanks,
		"RowByRanks":          impl.RowByRanks,
		"Rowvacuation":        impl.Rowvacuation,
		"DualRowvacuation":    impl.DualRowvacuation,
		"RowvacuationWord":    impl.RowvacuationWord,
		"FixedByRowvacuation": impl.FixedByRowvacuation,
		"GyrateIdeal":         impl.GyrateIdeal,
		"GyrateBack":          impl.GyrateBack,
		"GyrationLengths":     impl.GyrationLengths,
		"DualIdeal":           impl.DualIdeal,
		"RowOnDual":           impl.RowOnDual,
		"SortedLengths":       impl.SortedLengths,

		// FirstDesk has neither arguments nor a result that tells whether there are others; console_test.go tests it.
		"IsDesk":      impl.IsDesk,
		"DeskLine":    impl.DeskLine,
		"RunScript":   impl.RunScript,
		"DeskAfter":   impl.DeskAfter,
		"FailedLines": impl.FailedLines,
	}
}

// hidden stands behind the length of every slice that is given to the program.
const hidden = 7777

// withSpare returns the same numbers, with some more behind the length that the program must neither read nor change.
func withSpare(list []int) []int {
	if list == nil {
		return nil
	}
	room := make([]int, 0, len(list)+3)
	room = append(room, list...)
	for range 3 {
		room = append(room, hidden)
	}
	return room[:len(list)]
}

func argumentsOf(kind reflect.Type) []reflect.Value {
	var list []any
	switch kind {
	case reflect.TypeFor[impl.Poset]():
		for _, p := range append(badPosets(), argumentPosets()...) {
			list = append(list, impl.Poset{Less: withSpare(p.Less)})
		}
	case reflect.TypeFor[int]():
		for _, n := range []int{math.MinInt, -1 << 32, -14, -13, -2, -1, 0, 1, 2, 3, 4, 5, 7, 10, 11, 12, 13, 15, 16, 20, 21, 60, 61, 1023, 1024, 1 << 32, 1 << 62, math.MaxInt} {
			list = append(list, n)
		}
	case reflect.TypeFor[[]int]():
		for _, numbers := range argumentLists() {
			list = append(list, withSpare(numbers))
		}
	case reflect.TypeFor[[][]int]():
		for _, rows := range argumentRows() {
			list = append(list, rows)
		}
	case reflect.TypeFor[string]():
		for _, text := range append(textsOfNoPoset(), argumentTexts()...) {
			list = append(list, text)
		}
	case reflect.TypeFor[impl.Desk]():
		for _, p := range append(badPosets(), argumentPosets()...) {
			for _, s := range []int{math.MinInt, -1, 0, 1, 2, 3, 7, 15, 31, 1023, 1024, math.MaxInt} {
				list = append(list, impl.Desk{Poset: impl.Poset{Less: withSpare(p.Less)}, Ideal: s})
			}
		}
	}
	return reflectedValues(list)
}

// argumentsFor returns the arguments at the place i of a function: fewer ones of a poset and three more, of which there would be millions of mixtures.
func argumentsFor(f reflect.Type, i int) []reflect.Value {
	if f.NumIn() < 4 || f.In(0) != reflect.TypeFor[impl.Poset]() {
		return argumentsOf(f.In(i))
	}
	var list []any
	switch f.In(i) {
	case reflect.TypeFor[impl.Poset]():
		for _, less := range [][]int{nil, {}, {-1}, {0, 1, 2}, make([]int, 11), {0}, {0, 1, 1, 7}, {0, 1, 1, 5, 15}, chainOf(10).Less} {
			list = append(list, impl.Poset{Less: withSpare(less)})
		}
	case reflect.TypeFor[int]():
		for _, n := range []int{math.MinInt, -1001, -1000, -1, 0, 1, 3, 4, 9, 10, 20, 21, 1000, 1001, 1 << 62, math.MaxInt} {
			list = append(list, n)
		}
	case reflect.TypeFor[[]int]():
		for _, numbers := range [][]int{
			nil, {}, {0}, {20}, {21}, {-1}, {math.MaxInt}, {0, 1, 1, 3}, {1, 0, 2, 3}, {0, 20, 4, 20}, {0, 3, 2, 2, 4}, {math.MinInt, 0, 0, 0},
			{0, 0, 1, 4, 4, 7, 9, 9, 20, 20}, make([]int, 10), make([]int, 100), make([]int, 101),
		} {
			list = append(list, withSpare(numbers))
		}
	}
	return reflectedValues(list)
}

func reflectedValues(list []any) []reflect.Value {
	var values []reflect.Value
	for _, x := range list {
		values = append(values, reflect.ValueOf(x))
	}
	return values
}

func argumentPosets() []impl.Poset {
	list := append(everyPoset(3), largePosets()...)
	return append(list, impl.Poset{Less: []int{0}}, impl.Poset{Less: []int{0, 1, 1, 7}})
}

// argumentTexts are PosetTexts, border words, lines and scripts, and texts of any bytes.
func argumentTexts() []string {
	texts := []string{
		"1:-", "4:0<1,0<2,1<3,2<3", "10:0<9", "UR", "RU", "URUR", "URRRR", "UUURRR", "UURRR", "urur",
		"poset 2:0<1", "poset 3:0<1,0<2,1<2", "rectangle 2 5", "rectangle 4 4", "stairs 4", "fence 11", "dual", "take 3", "take 1000000", "toggle 0", "toggle 9", "row", "back", "times 1000", "times 1001",
		"vacuate", "gyrate", "show", "ideal", "size", "orbit", "ideals", "orders", "lengths", "mean", "even", " ", "row ", "fly", "\r", "\x00",
		"row\n", "row\nrow", "\n", "\n\n", "row\nback\nfly\ntake 2\norbit\nlengths\n", "poset 10:-\ndual\nideal\n", "fence 5\nstairs 9\neven\n\n",
		strings.Repeat("row\n", 50), strings.Repeat("row\n", 51), strings.Repeat("x", 2999) + "\n", strings.Repeat("x", 3000), strings.Repeat("x", 3001), strings.Repeat("x", 3000) + "\n", strings.Repeat("row\n", 100000), strings.Repeat("\xff\x00 ", 100000),
	}
	for b := range 256 {
		if b%16 == 10 || b > 250 {
			texts = append(texts, strings.Repeat(string([]byte{byte(b)}), 40), "take "+string([]byte{byte(b)})+"\n")
		}
	}
	return texts
}

// argumentLists are words of elements and of ranks, orders, lattice words, labels, chains of ideals, coefficients, remainders, stabilizers, arrays and layers, and what is none of them.
func argumentLists() [][]int {
	return [][]int{
		nil, {}, {0}, {1}, {9}, {0, 0}, {1, 0}, {0, 1, 2}, {2, 1, 0}, {0, 2, 1, 3}, {3, 2, 1, 0}, {0, 1, 2, 3, 4, 5, 6, 7, 8, 9},
		{-1}, {10}, {64}, {0, math.MaxInt}, {math.MinInt, 0}, {0, 1, 1 << 32}, make([]int, 100), make([]int, 101),
		{0, 1, 0, 1}, {0, 1, 0, 2, 1, 2}, {0, 0, 1, 2, 0, 1, 2, 1, 2}, {0, 2, 4, 1, 3, 5}, {0, 5, 1, 2, 6, 7, 3, 8, 4, 9}, {0, 3, 1, 6, 4, 2, 7, 5, 8},
		{12}, {13}, {0, 0, 1}, {0, 5, 12}, {0, 1, 1, 7}, {1, 3, 1, 12}, {1, 3, 7, 15}, {0, 1, 3, 7, 15, 15}, {1, 0, 2, 0, 3, 3, 3, 4, 3, 12}, make([]int, 10), make([]int, 12), make([]int, 13),
		{2, 1}, {2, 1, 2, 1}, {1, 2, 1}, {60}, {61, 1}, {1_000_000, 0, 5}, {1_000_001}, {100_000_000}, {100_000_001}, make([]int, 60), make([]int, 61),
		{20}, {21}, {0, 20, 4}, {2, 7, 7, 20}, {0, 3, 2, 2, 20}, {0, 1, 1, 2, 4, 8, 8, 9, 20, 20}, make([]int, 20), make([]int, 21),
		{2, 1, 0, 2, 1, 2}, {1, 0, 1}, {8, 0}, {0, 9, 3, 1}, make([]int, 40), make([]int, 41),
	}
}

// argumentRows are relations and tableaux, and what is neither.
func argumentRows() [][][]int {
	long := make([][]int, 101)
	for k := range long {
		long[k] = []int{0, 1}
	}
	lists := [][][]int{
		nil, {}, {nil}, {{}}, {{0}}, {{0, 1}}, {{0, 1}, {1, 2}}, {{0, 1, 2}}, {{1, 0}}, {{0, 0}}, {{0, 1}, nil},
		{{-1, 0}}, {{0, math.MaxInt}}, {{math.MinInt, math.MaxInt}}, {{0, 9}, {3, 4}, {0, 9}}, {{0, 1}, {0, 2}, {1, 3}, {2, 3}},
		long, long[:100],
		{{0, 1}, {2, 3}}, {{0, 2}, {1, 3}}, {{0}, {1}, {2}}, {{0, 2, 4}, {1, 3, 5}}, {{0, 1, 4}, {2, 5, 7}, {3, 6, 8}}, {{0, 2, 3, 6, 8}, {1, 4, 5, 7, 9}},
		{{0}, {}}, {{0, 2, 1}}, {{0, 3}, {1, 2}}, {{1}, {0}}, {{0, 1}, {2}}, {{0, 1}, {2, 4}}, {{0, 1, 2, 3, 4, 5, 6, 7, 8, 9, 10}},
	}
	for k, rows := range lists {
		var spare [][]int
		for _, row := range rows {
			spare = append(spare, withSpare(row))
		}
		if spare != nil {
			spare = append(spare, []int{hidden})[:len(rows)]
		}
		lists[k] = spare
	}
	return lists
}

// slicesIn returns all slices in a value, each with its whole capacity.
func slicesIn(v reflect.Value) []reflect.Value {
	switch v.Kind() {
	case reflect.Struct:
		var found []reflect.Value
		for i := range v.NumField() {
			found = append(found, slicesIn(v.Field(i))...)
		}
		return found
	case reflect.Slice:
		whole := v.Slice3(0, v.Cap(), v.Cap())
		found := []reflect.Value{whole}
		for i := range whole.Len() {
			found = append(found, slicesIn(whole.Index(i))...)
		}
		return found
	}
	return nil
}

// memoryOf copies all numbers and the headers of all rows that stand in a value, and behind its lengths.
func memoryOf(values []reflect.Value) []any {
	var seen []any
	for _, v := range values {
		if v.Kind() != reflect.Struct && v.Kind() != reflect.Slice {
			seen = append(seen, v.Interface())
		}
		for _, s := range slicesIn(v) {
			for i := range s.Len() {
				if x := s.Index(i); x.Kind() == reflect.Slice {
					seen = append(seen, x.Pointer(), x.Len(), x.Cap())
				} else {
					seen = append(seen, x.Interface())
				}
			}
		}
	}
	return seen
}

// scribble writes a number over all numbers and texts in a value, and behind its lengths.
func scribble(s reflect.Value, number int) {
	for i := range s.Len() {
		switch x := s.Index(i); x.Kind() {
		case reflect.Int:
			x.SetInt(int64(number))
		case reflect.String:
			x.SetString(strconv.Itoa(number))
		}
	}
}

func holds(s reflect.Value, number int) bool {
	for i := range s.Len() {
		x := s.Index(i)
		if x.Kind() == reflect.Int && x.Int() != int64(number) || x.Kind() == reflect.String && x.String() != strconv.Itoa(number) {
			return false
		}
	}
	return true
}

// eachCall calls body with all mixtures of arguments of a function.
func eachCall(f reflect.Value, body func(args []reflect.Value)) {
	var pick func(args []reflect.Value)
	pick = func(args []reflect.Value) {
		if len(args) == f.Type().NumIn() {
			body(args)
			return
		}
		for _, v := range argumentsFor(f.Type(), len(args)) {
			pick(append(args[:len(args):len(args)], v))
		}
	}
	pick(nil)
}

// callSafely calls f and tells a panic as a failed test.
func callSafely(t *testing.T, name string, f reflect.Value, args []reflect.Value) (out []reflect.Value) {
	defer func() {
		if r := recover(); r != nil {
			t.Errorf("%s%v panics: %v", name, args, r)
		}
	}()
	return f.Call(args)
}

func interfacesOf(values []reflect.Value) []any {
	var list []any
	for _, v := range values {
		list = append(list, v.Interface())
	}
	return list
}

func TestArgumentsAndResults(t *testing.T) {
	for name, function := range chapterFunctions() {
		f := reflect.ValueOf(function)
		calls, succeeded, failed := 0, 0, 0
		eachCall(f, func(args []reflect.Value) {
			calls++
			before := memoryOf(args)
			out := callSafely(t, name, f, args)
			if out == nil {
				return
			}
			if !reflect.DeepEqual(memoryOf(args), before) {
				t.Fatalf("%s changes its arguments %v", name, before)
			}
			if out[len(out)-1].Bool() {
				succeeded++
			} else {
				failed++
				checkZero(t, name, args, out)
			}
			checkMemory(t, name, f, args, before, out)
		})
		if succeeded == 0 || failed == 0 {
			t.Errorf("%s: %d of %d calls succeed", name, succeeded, calls)
		}
	}
}

func checkZero(t *testing.T, name string, args, out []reflect.Value) {
	for _, x := range out {
		if x.IsZero() || x.Kind() == reflect.Slice && x.Len() == 0 {
			continue
		}
		t.Errorf("%s%v fails, but returns %v", name, args, interfacesOf(out))
	}
}

// checkMemory overwrites a result: neither the arguments, nor another slice of the result, nor a later call may notice.
func checkMemory(t *testing.T, name string, f reflect.Value, args []reflect.Value, before []any, out []reflect.Value) {
	again := callSafely(t, name, f, args)
	if !reflect.DeepEqual(interfacesOf(again), interfacesOf(out)) {
		t.Errorf("%s%v returns %v, then %v", name, args, interfacesOf(out), interfacesOf(again))
	}
	var parts []reflect.Value
	for _, x := range out {
		parts = append(parts, slicesIn(x)...)
	}
	for k, s := range parts {
		scribble(s, -1000-k)
	}
	for k, s := range parts {
		if !holds(s, -1000-k) {
			t.Errorf("%s%v returns slices that share memory", name, args)
		}
	}
	if !reflect.DeepEqual(memoryOf(args), before) {
		t.Fatalf("%s returns memory of its arguments %v", name, before)
	}
	if third := callSafely(t, name, f, args); !reflect.DeepEqual(interfacesOf(third), interfacesOf(again)) {
		t.Errorf("%s%v returns %v when its last result was overwritten", name, args, interfacesOf(third))
	}
}

// TestSpareCapacityIsNotRead gives the same lists twice, with other numbers behind their lengths.
func TestSpareCapacityIsNotRead(t *testing.T) {
	room := []int{0, 1, 1, 7, 15, 15, 15, 15, 15, 15, 15, 15}
	for name, function := range chapterFunctions() {
		f := reflect.ValueOf(function)
		var cut, exact []reflect.Value
		for i := range f.Type().NumIn() {
			switch f.Type().In(i) {
			case reflect.TypeFor[impl.Poset]():
				cut = append(cut, reflect.ValueOf(impl.Poset{Less: room[:4]}))
				exact = append(exact, reflect.ValueOf(impl.Poset{Less: []int{0, 1, 1, 7}}))
			case reflect.TypeFor[[][]int]():
				rows := [][]int{room[:2], {0, 2}, {1, 2}}
				cut = append(cut, reflect.ValueOf(rows[:1]))
				exact = append(exact, reflect.ValueOf([][]int{{0, 1}}))
			case reflect.TypeFor[[]int]():
				list := listFor(name)
				cut, exact = append(cut, reflect.ValueOf(append(list, 0, 1, 2, 3, 64)[:len(list)])), append(exact, reflect.ValueOf(list))
			case reflect.TypeFor[int]():
				number := reflect.ValueOf(numberFor(name, i))
				cut, exact = append(cut, number), append(exact, number)
			case reflect.TypeFor[string]():
				text := reflect.ValueOf(textFor(name))
				cut, exact = append(cut, text), append(exact, text)
			case reflect.TypeFor[impl.Desk]():
				cut = append(cut, reflect.ValueOf(impl.Desk{Poset: impl.Poset{Less: room[:4]}, Ideal: 5}))
				exact = append(exact, reflect.ValueOf(impl.Desk{Poset: impl.Poset{Less: []int{0, 1, 1, 7}}, Ideal: 5}))
			}
		}
		one, two := interfacesOf(f.Call(cut)), interfacesOf(f.Call(exact))
		if !reflect.DeepEqual(one, two) || !two[len(two)-1].(bool) {
			t.Errorf("%s reads behind the length: %v, %v", name, one, two)
		}
	}
}

// listFor returns a list with which a function succeeds.
func listFor(name string) []int {
	switch name {
	case "LabelsOfIdeals", "FromLayers":
		return []int{0, 1, 5, 15}
	case "ValueByRemainders", "OrbitsByRests":
		return []int{2, 1, 2, 1}
	case "IsSieved":
		// As remainders they sieve themselves.
		return []int{2, 1}
	case "ToggleRanks":
		return []int{2, 0, 1}
	}
	return []int{0, 1, 2, 3}
}

// textFor returns a text with which a function succeeds.
func textFor(name string) string {
	switch name {
	case "FromWord":
		return "URURUR"
	case "DeskLine":
		return "dual"
	case "RunScript", "DeskAfter", "FailedLines":
		return "dual\nfly\nrow\n"
	}
	return "1:-"
}

// numberFor returns a number with which a function succeeds at the place i of its arguments.
func numberFor(name string, i int) int {
	switch name {
	case "AntichainRow":
		return 6
	case "LinearWith", "ToggleLinear", "ToggleRank":
		return 1
	case "TableauOf":
		return 2
	case "HookOf":
		// The sides come first.
		return 3 - i/2
	}
	return 3
}
