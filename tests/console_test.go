package tests

import (
	"math"
	"slices"
	"strconv"
	"strings"
	"testing"

	"loop.example/g01138/impl"
)

func sameDesk(one, other impl.Desk) bool {
	return one.Ideal == other.Ideal && slices.Equal(one.Poset.Less, other.Poset.Less)
}

// checkLine executes a line on a desk, and asks for the desk behind it and for its reply.
func checkLine(t *testing.T, d impl.Desk, line string, want impl.Desk, reply string) {
	t.Helper()
	next, got, ok := impl.DeskLine(d, line)
	if !ok || got != reply || !sameDesk(next, want) {
		t.Errorf("DeskLine(%v, %.60q) = %v, %q, %v, not %v, %q", d, line, next, got, ok, want, reply)
	}
}

// checkRefused asks for a reply that is no or what, and for the same desk.
func checkRefused(t *testing.T, d impl.Desk, line, reply string) {
	t.Helper()
	checkLine(t, d, line, d, reply)
}

func checkNoLine(t *testing.T, d impl.Desk, line string) {
	t.Helper()
	if next, reply, ok := impl.DeskLine(d, line); ok || reply != "" || next.Poset.Less != nil || next.Ideal != 0 {
		t.Errorf("DeskLine(%v, %.60q) = %v, %q, %v", d, line, next, reply, ok)
	}
}

// checkScript runs a script, which has to succeed, and returns the desk behind it.
func checkScript(t *testing.T, script string, replies []string) impl.Desk {
	t.Helper()
	if got, ok := impl.RunScript(script); !ok || !slices.Equal(got, replies) {
		t.Errorf("RunScript(%.60q) = %q, %v, not %q", script, got, ok, replies)
	}
	var failed []int
	for k, reply := range replies {
		if reply == "no" || reply == "what" {
			failed = append(failed, k+1)
		}
	}
	checkList(t, "FailedLines", failed)(impl.FailedLines(script))
	d, ok := impl.DeskAfter(script)
	if !ok || !impl.IsDesk(d) {
		t.Errorf("DeskAfter(%.60q) = %v, %v", script, d, ok)
	}
	return d
}

func checkNoScript(t *testing.T, script string) {
	t.Helper()
	if replies, ok := impl.RunScript(script); ok || len(replies) != 0 {
		t.Errorf("RunScript(%.60q) = %q, %v", script, replies, ok)
	}
	if d, ok := impl.DeskAfter(script); ok || d.Poset.Less != nil || d.Ideal != 0 {
		t.Errorf("DeskAfter(%.60q) = %v, %v", script, d, ok)
	}
	checkNoList(t, "FailedLines")(impl.FailedLines(script))
}

func deskOf(t *testing.T, text string, s int) impl.Desk {
	t.Helper()
	return impl.Desk{Poset: mustParse(t, text), Ideal: s}
}

func TestChapter10Example(t *testing.T) {
	d := checkScript(t, "row\nrow\norbit\nlengths\nmean\ntake 2\nfly\n", []string{"1", "7", "7,15,0,1", "4,2", "2/1", "no", "what"})
	if !sameDesk(d, deskOf(t, "4:0<1,0<2,1<3,2<3", 7)) {
		t.Errorf("DeskAfter = %v", d)
	}
	checkList(t, "FailedLines", []int{6, 7})(impl.FailedLines("row\nrow\norbit\nlengths\nmean\ntake 2\nfly\n"))
}

func TestLimitsOfChapter10(t *testing.T) {
	if impl.MaxScript != 3000 || impl.MaxLines != 50 {
		t.Errorf("MaxScript = %d, MaxLines = %d", impl.MaxScript, impl.MaxLines)
	}
}

// TestFirstDesk overwrites a desk, which the next one must not notice.
func TestFirstDesk(t *testing.T) {
	for range 3 {
		d := impl.FirstDesk()
		if !slices.Equal(d.Poset.Less, []int{0, 1, 1, 7}) || d.Ideal != 0 || !impl.IsDesk(d) {
			t.Errorf("FirstDesk = %v", d)
		}
		for k := range d.Poset.Less[:cap(d.Poset.Less)] {
			d.Poset.Less[:cap(d.Poset.Less)][k] = -9
		}
		checkScript(t, "show\nideal\n", []string{"4:0<1,0<2,1<3,2<3", "0"})
	}
}

func TestIsDesk(t *testing.T) {
	for _, p := range turnPosets() {
		r := relationOf(p.Less)
		for s := range power(len(r)) {
			if got := impl.IsDesk(impl.Desk{Poset: p, Ideal: s}); got != r.isIdeal(s) {
				t.Errorf("IsDesk(%v, %d) = %v", p, s, got)
			}
		}
		for _, s := range notSetsOf(len(r)) {
			if impl.IsDesk(impl.Desk{Poset: p, Ideal: s}) {
				t.Errorf("%v with %d is a desk", p, s)
			}
		}
	}
	for _, d := range badDesks() {
		if impl.IsDesk(d) {
			t.Errorf("%v is a desk", d)
		}
	}
}

// TestLinesDoTheirCalls compares each line of the table with the call that it names, on many desks.
func TestLinesDoTheirCalls(t *testing.T) {
	for _, d := range consoleDesks() {
		checkPosetLines(t, d)
		checkIdealLines(t, d)
		checkAnswers(t, d)
	}
}

func checkPosetLines(t *testing.T, d impl.Desk) {
	t.Helper()
	text, _ := impl.PosetText(d.Poset)
	checkLine(t, d, "poset "+text, impl.Desk{Poset: d.Poset}, text)
	checkLine(t, d, "poset 3:0<2,1<2", deskOf(t, "3:0<2,1<2", 0), "3:0<2,1<2")
	for _, sides := range [][2]int{{1, 1}, {2, 2}, {2, 3}, {3, 2}, {1, 10}, {5, 2}, {0, 1}, {1, 0}, {4, 3}, {11, 1}} {
		p, ok := impl.Rectangle(sides[0], sides[1])
		checkNewPoset(t, d, "rectangle "+strconv.Itoa(sides[0])+" "+strconv.Itoa(sides[1]), p, ok)
	}
	for n := range 13 {
		p, ok := impl.Staircase(n)
		checkNewPoset(t, d, "stairs "+strconv.Itoa(n), p, ok)
		p, ok = impl.Fence(n)
		checkNewPoset(t, d, "fence "+strconv.Itoa(n), p, ok)
	}
	dual, _ := impl.DualOf(d.Poset)
	s, _ := impl.DualIdeal(d.Poset, d.Ideal)
	text, _ = impl.PosetText(dual)
	checkLine(t, d, "dual", impl.Desk{Poset: dual, Ideal: s}, text)
}

// checkNewPoset gives the results of the call that a line names.
func checkNewPoset(t *testing.T, d impl.Desk, line string, p impl.Poset, ok bool) {
	t.Helper()
	if !ok {
		checkRefused(t, d, line, "no")
		return
	}
	text, _ := impl.PosetText(p)
	checkLine(t, d, line, impl.Desk{Poset: p}, text)
}

func checkIdealLines(t *testing.T, d impl.Desk) {
	t.Helper()
	check := func(line string) func(s int, ok bool) {
		return func(s int, ok bool) {
			t.Helper()
			if ok {
				checkLine(t, d, line, impl.Desk{Poset: d.Poset, Ideal: s}, strconv.Itoa(s))
			} else {
				checkRefused(t, d, line, "no")
			}
		}
	}
	n := len(d.Poset.Less)
	for s := range min(power(n)+2, 70) {
		isIdeal, _ := impl.IsIdeal(d.Poset, s)
		check("take "+strconv.Itoa(s))(s, isIdeal)
	}
	for e := range 12 {
		check("toggle " + strconv.Itoa(e))(impl.ToggleAt(d.Poset, d.Ideal, e))
	}
	for _, k := range []int{0, 1, 2, 5, 999, 1000, 1001, 999999} {
		check("times " + strconv.Itoa(k))(impl.RowmotionTimes(d.Poset, d.Ideal, k))
	}
	check("row")(impl.Rowmotion(d.Poset, d.Ideal))
	check("back")(impl.RowmotionBack(d.Poset, d.Ideal))
	check("vacuate")(impl.Rowvacuation(d.Poset, d.Ideal))
	check("gyrate")(impl.GyrateIdeal(d.Poset, d.Ideal))
}

func checkAnswers(t *testing.T, d impl.Desk) {
	t.Helper()
	checkNumberReply := func(line string) func(n int, ok bool) {
		return func(n int, ok bool) { t.Helper(); checkLine(t, d, line, d, strconv.Itoa(n)) }
	}
	checkListReply := func(line string) func(list []int, ok bool) {
		return func(list []int, ok bool) { t.Helper(); checkLine(t, d, line, d, withCommas(list)) }
	}
	text, _ := impl.PosetText(d.Poset)
	checkLine(t, d, "show", d, text)
	checkLine(t, d, "ideal", d, strconv.Itoa(d.Ideal))
	checkNumberReply("size")(impl.SizeOf(d.Poset, d.Ideal))
	checkNumberReply("ideals")(impl.CountIdeals(d.Poset))
	checkNumberReply("orders")(impl.CountOrders(d.Poset))
	checkListReply("orbit")(impl.OrbitOf(d.Poset, d.Ideal))
	checkListReply("lengths")(impl.OrbitLengths(d.Poset))
	upper, lower, _ := impl.MeanOfIdeals(d.Poset)
	checkLine(t, d, "mean", d, strconv.Itoa(upper)+"/"+strconv.Itoa(lower))
	even := "unlike"
	if isEven, _ := impl.SizeIsEven(d.Poset); isEven {
		even = "yes"
	}
	checkLine(t, d, "even", d, even)
}

// TestLinesByTheDocument compares with a second console, which is written without the program's code.
func TestLinesByTheDocument(t *testing.T) {
	for _, d := range consoleDesks() {
		model := modelOf(d)
		for _, line := range fitLines() {
			next, reply := model.behind(line)
			checkLine(t, d, line, next.desk(), reply)
		}
	}
}

func TestStrangeLines(t *testing.T) {
	for _, d := range fewDesks() {
		model := modelOf(d)
		for _, line := range strangeLines() {
			checkRefused(t, d, line, "what")
			if _, reply := model.behind(line); reply != "what" {
				t.Errorf("the reply to %.60q is %q by the document", line, reply)
			}
		}
	}
}

// TestLinesWithOneByteChanged puts each byte into each place of lines, instead of another one or between two of them.
func TestLinesWithOneByteChanged(t *testing.T) {
	d := deskOf(t, "5:0<1,0<2,1<4,2<3,3<4", 3)
	model := modelOf(d)
	check := func(line string) {
		if strings.Contains(line, "\n") {
			checkNoLine(t, d, line)
			return
		}
		next, reply := model.behind(line)
		checkLine(t, d, line, next.desk(), reply)
	}
	for _, line := range []string{
		"", "poset 3:0<1", "rectangle 2 3", "stairs 3", "fence 10", "dual", "take 0", "take 7", "toggle 2", "row", "back", "times 10", "times 1000",
		"vacuate", "gyrate", "show", "ideal", "size", "orbit", "ideals", "orders", "lengths", "mean", "even",
	} {
		for k := 0; k <= len(line); k++ {
			for b := range 256 {
				check(line[:k] + string([]byte{byte(b)}) + line[k:])
				if k < len(line) {
					check(line[:k] + string([]byte{byte(b)}) + line[k+1:])
				}
			}
			if k < len(line) {
				check(line[:k] + line[k+1:])
			}
		}
	}
}

// TestKnownReplies has texts that were found by hand.
func TestKnownReplies(t *testing.T) {
	square := "4:0<1,0<2,1<3,2<3"
	for script, want := range map[string]string{
		"show\nideal\nsize\norbit\nideals\norders\nlengths\nmean\neven\n":        square + "|0|0|0,1,7,15|6|2|4,2|2/1|yes",
		"take 5\nideal\nsize\norbit\nrow\nback\nback\n":                          "5|5|2|5,3|3|5|3",
		"toggle 3\ntoggle 0\ntoggle 2\ntoggle 0\ntoggle 2\ntoggle 0\n":           "0|1|5|5|1|0",
		"times 3\ntimes 1\ntimes 0\ntimes 1000\ntimes 1001\n":                    "15|0|0|0|no",
		"vacuate\nvacuate\ngyrate\ngyrate\ngyrate\n":                             "15|0|7|15|1",
		"poset 1:-\nlengths\norbit\nmean\neven\norders\nideals\nrow\nback\n":     "1:-|2|0,1|1/2|yes|1|2|1|0",
		"poset 2:0<1\nlengths\nmean\norbit\ntake 1\norbit\n":                     "2:0<1|3|1/1|0,1,3|1|1,3,0",
		"fence 3\nlengths\neven\nmean\nideals\norders\n":                         "3:0<2,1<2|3,2|unlike|7/5|5|2",
		"dual\nideal\nrow\ndual\nideal\n":                                        square + "|15|0|" + square + "|15",
		"poset 3:0<1,0<2\ntake 1\ndual\nideal\nlengths\ndual\nideal\n":           "3:0<1,0<2|1|3:0<2,1<2|3|3,2|3:0<1,0<2|1",
		"row\nrectangle 2 3\nideal\nrow\nstairs 3\nideal\nrow\nfence 4\nideal\n": "1|6:0<1,0<3,1<2,1<4,2<5,3<4,4<5|0|1|6:0<3,1<3,1<4,2<4,3<5,4<5|0|7|4:0<2,1<2,1<3|0",
		"row\nposet " + square + "\nideal\n":                                     "1|" + square + "|0",
		"poset 5:0<1,0<2,1<4,2<3,3<4\nvacuate\ngyrate\nrow\neven\nlengths\n":     "5:0<1,0<2,1<4,2<3,3<4|no|no|1|yes|8",
		"poset 10:-\nideals\norders\nmean\neven\nrow\norbit\nvacuate\ngyrate\n":  "10:-|1024|3628800|5/1|yes|1023|1023,0|0|1023",
		"rectangle 10 1\nrow\nlengths\norders\n":                                 "10:0<1,1<2,2<3,3<4,4<5,5<6,6<7,7<8,8<9|1|11|1",
		"take 15\ntake 16\nideal\ntake 999999\ntake 1000000\nideal\n":            "15|no|15|no|what|15",
	} {
		checkScript(t, script, strings.Split(want, "|"))
	}
}

// TestIdealBehindNewPosets begins with ideals that are none of the new posets, too.
func TestIdealBehindNewPosets(t *testing.T) {
	for _, d := range fewDesks() {
		for line, text := range map[string]string{
			"poset 1:-": "1:-", "poset 4:-": "4:-", "rectangle 1 2": "2:0<1", "rectangle 2 1": "2:0<1", "stairs 2": "3:0<2,1<2", "fence 4": "4:0<2,1<2,1<3",
		} {
			checkLine(t, d, line, deskOf(t, text, 0), text)
		}
		text, _ := impl.PosetText(d.Poset)
		checkLine(t, d, "poset "+text, impl.Desk{Poset: d.Poset}, text)
		for _, line := range []string{"poset 1:0", "rectangle 0 0", "rectangle 999999 999999", "stairs 9", "fence 11", "take 999999"} {
			_, reply, _ := impl.DeskLine(d, line)
			checkRefused(t, d, line, reply)
			if reply != "no" && reply != "what" {
				t.Errorf("the reply to %q is %q", line, reply)
			}
		}
	}
}

// TestDualLines has each ideal, which two dual lines lead back.
func TestDualLines(t *testing.T) {
	kept, zero := 0, 0
	for _, d := range consoleDesks() {
		r := relationOf(d.Poset.Less)
		dual := impl.Desk{Poset: r.turned().poset(), Ideal: r.dualOfSet(d.Ideal)}
		checkLine(t, d, "dual", dual, r.turned().text())
		checkLine(t, dual, "dual", d, r.text())
		if dual.Ideal == 0 {
			zero++
		} else if dual.Ideal == d.Ideal {
			kept++
		}
	}
	if kept == 0 || zero == 0 {
		t.Errorf("%d ideals are their own duals, %d have the dual 0", kept, zero)
	}
}

// TestRanksAreAskedFor has all posets of up to 5 elements, and what the lines reply behind others.
func TestRanksAreAskedFor(t *testing.T) {
	ranked, others := 0, 0
	for _, p := range turnPosets() {
		d := impl.Desk{Poset: p}
		if relationOf(p.Less).isRanked() {
			ranked++
			for _, line := range []string{"vacuate", "gyrate"} {
				if _, reply, ok := impl.DeskLine(d, line); !ok || reply == "no" || reply == "what" {
					t.Errorf("the reply to %q on %v is %q, %v", line, p, reply, ok)
				}
			}
			continue
		}
		others++
		checkRefused(t, d, "vacuate", "no")
		checkRefused(t, d, "gyrate", "no")
		checkRefused(t, d, "vacuate ", "what")
		checkRefused(t, d, "gyrate 1", "what")
	}
	if ranked < 20 || others < 20 {
		t.Errorf("%d posets are ranked, %d are not", ranked, others)
	}
}

// TestWords has too few and too many of them for each line of the table, and empty ones at each place.
func TestWords(t *testing.T) {
	samples := map[byte]string{'N': "1", 'P': "2:0<1"}
	for _, d := range fewDesks() {
		for name, kinds := range wordKinds() {
			line := name
			for k := range kinds {
				checkRefused(t, d, line, "what")
				checkRefused(t, d, line+" ", "what")
				line += " " + samples[kinds[k]]
			}
			if _, reply, ok := impl.DeskLine(d, line); !ok || reply == "what" {
				t.Errorf("the reply to %q is %q, %v", line, reply, ok)
			}
			for _, more := range []string{"", " ", "0", "1", "1:-", "2:0<1", "row", name} {
				checkRefused(t, d, line+" "+more, "what")
				checkRefused(t, d, more+" "+line, "what")
			}
			for k := range len(line) {
				if line[k] == ' ' {
					checkRefused(t, d, line[:k]+" "+line[k:], "what")
				}
			}
			checkRefused(t, d, strings.ToUpper(line), "what")
			checkRefused(t, d, strings.Join(strings.Split(line, " "), "\t")+"\t", "what")
		}
	}
}

// wordsOfNoNumber are none of the numbers that a line can have.
func wordsOfNoNumber() []string {
	return []string{
		"", "00", "01", "000", "007", "0000001", "010", "+0", "+1", "-0", "-1", "--1", "1000000", "1000001", "9999999", "10000000", "999999999999", "9223372036854775807", "9223372036854775808", "18446744073709551617", "36893488147419103233",
		"1.0", "1.", ".1", "1e0", "1e3", "0x1", "0b1", "0o1", "1_0", "1,0", "1:", "1:-", "1/1", "x", "one", "N", "1x", "x1", "1\t", "\t1", "1\r", "1\x00", "\x001", "\xff", "\u0661", "\uff11", "\u00b2", "1\u00a0", "\u22121",
		strings.Repeat("1", 2000), strings.Repeat("0", 2000), strings.Repeat("0", 2000) + "1",
	}
}

func TestNumbersInLines(t *testing.T) {
	lines := []string{"rectangle # 1", "rectangle 1 #", "rectangle # #", "rectangle 99 #", "stairs #", "fence #", "take #", "toggle #", "times #"}
	for _, d := range fewDesks() {
		model := modelOf(d)
		for _, line := range lines {
			for _, word := range wordsOfNoNumber() {
				if line := strings.ReplaceAll(line, "#", word); len(line) <= 3000 {
					checkRefused(t, d, line, "what")
				}
			}
			for _, n := range []int{0, 1, 2, 3, 4, 5, 9, 10, 11, 12, 99, 100, 1000, 1001, 1023, 1024, 99999, 100000, 999998, 999999} {
				line := strings.ReplaceAll(line, "#", strconv.Itoa(n))
				next, reply := model.behind(line)
				if reply == "what" {
					t.Errorf("the reply to %q is %q by the document", line, reply)
				}
				checkLine(t, d, line, next.desk(), reply)
			}
			// The greatest number fits no call, and one more is no number.
			checkRefused(t, d, strings.ReplaceAll(line, "#", "1000000"), "what")
			checkRefused(t, d, strings.ReplaceAll(line, "#", "999999"), "no")
		}
	}
}

func TestPosetTextsInLines(t *testing.T) {
	d := deskOf(t, "3:0<2,1<2", 3)
	tried := 0
	for _, text := range textsOfNoPoset() {
		switch line := "poset " + text; {
		case len(line) > 3000 || strings.Contains(line, "\n"):
			checkNoLine(t, d, line)
		default:
			checkRefused(t, d, line, "what")
			tried++
		}
	}
	if tried < 60 {
		t.Errorf("%d texts are tried", tried)
	}
	// Texts of posets are no numbers, and numbers are no texts of posets.
	for _, line := range []string{"poset 3", "poset 0", "poset 999999", "take 1:-", "toggle 1:-", "times 1:-", "stairs 1:-", "fence 3:-", "rectangle 1:- 1", "rectangle 1 1:-"} {
		checkRefused(t, d, line, "what")
	}
	for _, p := range turnPosets() {
		text, _ := impl.PosetText(p)
		checkLine(t, d, "poset "+text, impl.Desk{Poset: p}, text)
	}
}

// TestSetsThatAreNoIdeals takes all sets, and some numbers that are none.
func TestSetsThatAreNoIdeals(t *testing.T) {
	for _, d := range fewDesks() {
		r := relationOf(d.Poset.Less)
		for s := range power(len(r)) {
			if r.isIdeal(s) {
				checkLine(t, d, "take "+strconv.Itoa(s), impl.Desk{Poset: d.Poset, Ideal: s}, strconv.Itoa(s))
			} else {
				checkRefused(t, d, "take "+strconv.Itoa(s), "no")
			}
		}
		for _, s := range notSetsOf(len(r)) {
			switch line := "take " + strconv.Itoa(s); {
			case s >= 0 && s <= 999999:
				checkRefused(t, d, line, "no")
			default:
				checkRefused(t, d, line, "what")
			}
		}
	}
}

// TestListsInReplies has lists with one number, with two and with many.
func TestListsInReplies(t *testing.T) {
	for n := 1; n <= 10; n++ {
		d := impl.Desk{Poset: chainOf(n), Ideal: 1}
		checkLine(t, d, "lengths", d, strconv.Itoa(n+1))
		orbit := []string{}
		for k := 1; k <= n; k++ {
			orbit = append(orbit, strconv.Itoa(power(k)-1))
		}
		checkLine(t, d, "orbit", d, strings.Join(orbit, ",")+",0")
		loose := impl.Desk{Poset: antichainOf(n), Ideal: 1}
		checkLine(t, loose, "lengths", loose, strings.Repeat("2,", power(n-1)-1)+"2")
		checkLine(t, loose, "orbit", loose, "1,"+strconv.Itoa(power(n)-2))
	}
	d := deskOf(t, "10:0<3,0<5,0<8,1<5,1<7,2<9,4<5,4<8,4<9,6<7", 0)
	checkLine(t, d, "lengths", d, "3,11,14,29,23,41,13,7")
}

func TestLinesAtTheirLimits(t *testing.T) {
	for _, d := range fewDesks() {
		for _, b := range []string{"x", " ", "0", "\x00", "\xff", "\r"} {
			checkRefused(t, d, strings.Repeat(b, 2999), "what")
			checkRefused(t, d, strings.Repeat(b, 3000), "what")
			for _, length := range []int{3001, 3002, 6000, 1000000} {
				checkNoLine(t, d, strings.Repeat(b, length))
			}
		}
		checkRefused(t, d, "row"+strings.Repeat(" ", 2997), "what")
		checkNoLine(t, d, "row"+strings.Repeat(" ", 2998))
		for _, line := range []string{"\n", "row\n", "\nrow", "row\nrow", "row\nrow\n", "ro\nw", "show\r\n", "take\n0", "take 0\n", "\n\n", " \n", strings.Repeat("x", 2999) + "\n", "\n" + strings.Repeat("x", 2999), strings.Repeat("\n", 3000), strings.Repeat("x", 3000) + "\n"} {
			checkNoLine(t, d, line)
		}
	}
}

func TestScriptsAtTheirLimits(t *testing.T) {
	first := impl.FirstDesk()
	if d := checkScript(t, "", nil); !sameDesk(d, first) {
		t.Errorf("DeskAfter the empty script = %v", d)
	}
	for _, lines := range []int{1, 2, 49, 50} {
		if d := checkScript(t, strings.Repeat("\n", lines), slices.Repeat([]string{"what"}, lines)); !sameDesk(d, first) {
			t.Errorf("DeskAfter %d newlines = %v", lines, d)
		}
	}
	over := []string{"1", "7", "15", "0"}
	want := append(slices.Repeat(over, 12), "1", "7")
	if d := checkScript(t, strings.Repeat("row\n", 50), want); d.Ideal != 7 {
		t.Errorf("DeskAfter 50 rowmotions = %v", d)
	}
	// Of MaxScript bytes: a line that is none, and lines that all do something.
	if d := checkScript(t, "row\n"+strings.Repeat("x", 2995)+"\n", []string{"1", "what"}); d.Ideal != 1 {
		t.Errorf("DeskAfter a long line = %v", d)
	}
	checkScript(t, strings.Repeat(" ", 2999)+"\n", []string{"what"})
	text, _ := impl.PosetText(largePosets()[2])
	long := strings.Repeat("poset "+text+"\n", 27) + strings.Repeat("row\n", 13) + "back\n"
	want = slices.Repeat([]string{text}, 27)
	for k := range 13 {
		want = append(want, []string{"31", "1023", "0"}[k%3])
	}
	if d := checkScript(t, long, append(want, "0")); len(long) != 3000 || !sameDesk(d, impl.Desk{Poset: largePosets()[2]}) {
		t.Errorf("DeskAfter %d bytes = %v", len(long), d)
	}
	checkNoScript(t, long+"\n")
	for _, script := range notScripts() {
		checkNoScript(t, script)
	}
}

// TestScriptsAreTheirLines executes the lines of scripts one by one, and by the document.
func TestScriptsAreTheirLines(t *testing.T) {
	lengths := map[int]bool{}
	for _, script := range someScripts(600) {
		d, model := impl.FirstDesk(), firstModel()
		var replies []string
		for _, line := range endedLines(script) {
			next, reply, ok := impl.DeskLine(d, line)
			if !ok {
				t.Errorf("DeskLine(%v, %q) fails", d, line)
			}
			other, want := model.behind(line)
			if reply != want || !sameDesk(next, other.desk()) {
				t.Errorf("DeskLine(%v, %q) = %v, %q, not %v, %q", d, line, next, reply, other.desk(), want)
			}
			d, model = next, other
			replies = append(replies, reply)
		}
		lengths[len(replies)] = true
		if after := checkScript(t, script, replies); !sameDesk(after, d) {
			t.Errorf("DeskAfter(%q) = %v, not %v", script, after, d)
		}
		checkNoScript(t, script+"row")
	}
	if !lengths[0] || !lengths[1] || !lengths[50] {
		t.Errorf("the lengths of the scripts are %v", lengths)
	}
}

// TestScriptsOfAnyBytes has a line for each byte, and lines of chance.
func TestScriptsOfAnyBytes(t *testing.T) {
	for b := range 256 {
		text := string([]byte{byte(b)})
		if text == "\n" {
			checkScript(t, "row\n\nrow\n", []string{"1", "what", "7"})
			continue
		}
		checkScript(t, "row\n"+text+"\nrow\n", []string{"1", "what", "7"})
		checkScript(t, "row"+text+"\nrow\n", []string{"what", "1"})
		checkScript(t, text+"row\nrow\n", []string{"what", "1"})
		checkNoScript(t, "row\n"+text)
	}
}

func TestFailedLines(t *testing.T) {
	all := make([]int, 50)
	for k := range all {
		all[k] = k + 1
	}
	for script, want := range map[string][]int{
		"":                                 nil,
		"row\n":                            nil,
		"show\nideal\nlengths\n":           nil,
		strings.Repeat("mean\n", 50):       nil,
		"\n":                               {1},
		"no\n":                             {1},
		"take 2\n":                         {1},
		"take 2\nrow\n":                    {1},
		"row\ntake 2\n":                    {2},
		"row\n\nrow\nfly\nrow\ntoggle 4\n": {2, 4, 6},
		"fly\nrow\nrow\nrow\nrow\nrow\nstairs 0\n": {1, 7},
		strings.Repeat("row\n", 49) + "fly\n":      {50},
		strings.Repeat("fly\n", 50):                all,
		strings.Repeat("take 2\n", 50):             all,
		strings.Repeat("fly\ntake 2\n", 25):        all,
		strings.Repeat("\n", 11):                   all[:11],
	} {
		checkList(t, "FailedLines", want)(impl.FailedLines(script))
	}
}

// TestFailedLinesChangeNothing leaves out the lines that fail.
func TestFailedLinesChangeNothing(t *testing.T) {
	some := 0
	for _, script := range someScripts(300) {
		failed, ok := impl.FailedLines(script)
		kept := ""
		var keptReplies []string
		replies, _ := impl.RunScript(script)
		for k, line := range endedLines(script) {
			if !slices.Contains(failed, k+1) {
				kept += line + "\n"
				keptReplies = append(keptReplies, replies[k])
			}
		}
		one, _ := impl.DeskAfter(script)
		if other := checkScript(t, kept, keptReplies); !ok || !sameDesk(one, other) {
			t.Errorf("DeskAfter(%q) = %v, and %v without the lines %v", script, one, other, failed)
		}
		checkNoFailedLines(t, kept)
		if len(failed) > 0 {
			some++
		}
	}
	if some < 100 {
		t.Errorf("%d scripts have failed lines", some)
	}
}

func checkNoFailedLines(t *testing.T, script string) {
	t.Helper()
	checkList(t, "FailedLines", nil)(impl.FailedLines(script))
}

func TestNoDesks(t *testing.T) {
	for _, d := range badDesks() {
		for _, line := range append([]string{"", " ", "fly", "row\n", strings.Repeat("x", 3001)}, fitLines()...) {
			checkNoLine(t, d, line)
		}
	}
	for _, s := range []int{math.MinInt, math.MaxInt, -1, 16} {
		d := impl.FirstDesk()
		d.Ideal = s
		checkNoLine(t, d, "ideal")
	}
}

// TestDesksShareNoMemory overwrites the desk behind each line, and then the one before it.
func TestDesksShareNoMemory(t *testing.T) {
	for _, d := range fewDesks() {
		for _, line := range append(fitLines(), "", "fly", " row") {
			given := impl.Desk{Poset: impl.Poset{Less: withSpare(d.Poset.Less)}, Ideal: d.Ideal}
			next, reply, _ := impl.DeskLine(given, line)
			want := slices.Clone(next.Poset.Less)
			room := given.Poset.Less[:cap(given.Poset.Less)]
			before := slices.Clone(room)
			for k := range next.Poset.Less {
				next.Poset.Less[k] = -5
			}
			if !slices.Equal(room, before) {
				t.Errorf("DeskLine(%v, %q) returns memory of its desk", d, line)
			}
			checkLine(t, given, line, impl.Desk{Poset: impl.Poset{Less: want}, Ideal: next.Ideal}, reply)
			other, _, _ := impl.DeskLine(given, line)
			for k := range room {
				room[k] = -6
			}
			if !slices.Equal(other.Poset.Less, want) {
				t.Errorf("DeskLine(%v, %q) keeps memory of its desk", d, line)
			}
		}
	}
}
