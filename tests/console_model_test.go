package tests

import (
	"math/rand/v2"
	"regexp"
	"strconv"
	"strings"

	"loop.example/g01138/impl"
)

// What the tenth chapter says of lines and scripts, once more, on the tables of model_test.go.

// told is a poset with what the answers of the console tell of it, found once for many lines.
type told struct {
	r       relation
	text    string
	next    map[int]int
	before  map[int]int
	lengths []int
	ideals  int
	orders  int
	mean    string
	even    bool
}

// toldOnce keeps all posets that a test has come upon, by their texts.
var toldOnce = map[string]*told{}

func toldOf(r relation) *told {
	text := r.text()
	if p := toldOnce[text]; p != nil {
		return p
	}
	p := &told{r: r, text: text, next: r.rows(), before: map[int]int{}}
	for s, other := range p.next {
		p.before[other] = s
	}
	orbits := r.orbitsIn(p.next)
	p.lengths = lengthsOf(orbits)
	p.ideals = len(p.next)
	p.orders = r.ordersBehind(0, map[int]int{})
	p.mean = meanBy(r.ideals(), r.sizeOf).String()
	p.even = isEvenBy(orbits, r.sizeOf)
	toldOnce[text] = p
	return p
}

// text writes down the covers.
func (r relation) text() string {
	list := ""
	for _, pair := range r.covers() {
		list += "," + strconv.Itoa(pair[0]) + "<" + strconv.Itoa(pair[1])
	}
	if list == "" {
		list = ",-"
	}
	return strconv.Itoa(len(r)) + ":" + list[1:]
}

// ordersBehind counts the ways on from a set of elements that are placed.
func (r relation) ordersBehind(placed int, known map[int]int) int {
	if placed == power(len(r))-1 {
		return 1
	}
	if count, ok := known[placed]; ok {
		return count
	}
	count := 0
	for e := range r {
		if in(e, r.lowestOutside(placed)) {
			count += r.ordersBehind(placed+power(e), known)
		}
	}
	known[placed] = count
	return count
}

var posetForm = regexp.MustCompile(`^([1-9]|10):(-|[0-9]<[0-9](,[0-9]<[0-9])*)$`)

// relationIn reads a PosetText, which has one digit for each element.
func relationIn(text string) (relation, bool) {
	parts := posetForm.FindStringSubmatch(text)
	if parts == nil {
		return nil, false
	}
	n, _ := strconv.Atoi(parts[1])
	r := emptyRelation(n)
	for k := 0; parts[2] != "-" && k < len(parts[2]); k += 4 {
		j, i := int(parts[2][k]-'0'), int(parts[2][k+2]-'0')
		if j >= i || i >= n {
			return nil, false
		}
		r[j][i] = true
	}
	r = r.closed()
	return r, r.text() == text
}

// stairsBy has the pairs by their widths, and lets a pair lie within another one.
func stairsBy(n int) relation {
	var pairs [][2]int
	for width := 1; width <= n; width++ {
		for i := 0; i+width <= n; i++ {
			pairs = append(pairs, [2]int{i, i + width})
		}
	}
	r := emptyRelation(len(pairs))
	for j, inner := range pairs {
		for i, outer := range pairs {
			r[j][i] = inner != outer && outer[0] <= inner[0] && inner[1] <= outer[1]
		}
	}
	return r
}

func fenceBy(n int) relation {
	r := emptyRelation(n)
	lows := (n + 1) / 2
	for high := lows; high < n; high++ {
		for _, low := range []int{high - lows, high - lows + 1} {
			if low < lows {
				r[low][high] = true
			}
		}
	}
	return r
}

// wordKinds has, for the first word of each line of the table, what the words behind it have to be.
func wordKinds() map[string]string {
	return map[string]string{
		"poset": "P", "rectangle": "NN", "stairs": "N", "fence": "N", "dual": "",
		"take": "N", "toggle": "N", "row": "", "back": "", "times": "N", "vacuate": "", "gyrate": "",
		"show": "", "ideal": "", "size": "", "orbit": "", "ideals": "", "orders": "", "lengths": "", "mean": "", "even": "",
	}
}

// wordsBetween cuts at each blank.
func wordsBetween(line string) []string {
	words := []string{""}
	for i := range len(line) {
		if line[i] == ' ' {
			words = append(words, "")
		} else {
			words[len(words)-1] += line[i : i+1]
		}
	}
	return words
}

// numberOf reads digit by digit.
func numberOf(word string) (int, bool) {
	if word == "" || len(word) > 6 || word[0] == '0' && word != "0" {
		return 0, false
	}
	n := 0
	for i := range len(word) {
		if word[i] < '0' || word[i] > '9' {
			return 0, false
		}
		n = 10*n + int(word[i]-'0')
	}
	return n, true
}

type modelDesk struct {
	p *told
	s int
}

func firstModel() modelDesk { return modelDesk{p: toldOf(rectangleOrder(2, 2))} }

func modelOf(d impl.Desk) modelDesk { return modelDesk{toldOf(relationOf(d.Poset.Less)), d.Ideal} }

func (d modelDesk) desk() impl.Desk { return impl.Desk{Poset: d.p.r.poset(), Ideal: d.s} }

// behind returns the desk behind a line, and its reply.
func (d modelDesk) behind(line string) (modelDesk, string) {
	words := wordsBetween(line)
	kinds, known := wordKinds()[words[0]]
	if !known || len(words) != len(kinds)+1 {
		return d, "what"
	}
	var numbers []int
	var r relation
	for k, kind := range kinds {
		n, isNumber := numberOf(words[k+1])
		other, isText := relationIn(words[k+1])
		if kind == 'N' && !isNumber || kind == 'P' && !isText {
			return d, "what"
		}
		numbers, r = append(numbers, n), other
	}
	next, reply, ok := d.with(words[0], numbers, r)
	if !ok {
		return d, "no"
	}
	return next, reply
}

func (d modelDesk) with(name string, numbers []int, r relation) (modelDesk, string, bool) {
	if reply := d.answer(name); reply != "" {
		return d, reply, true
	}
	if s, ok := d.other(name, numbers); s >= 0 {
		return modelDesk{d.p, s}, strconv.Itoa(s), ok
	}
	next := modelDesk{}
	switch a := numbers; {
	case name == "rectangle" && a[0] >= 1 && a[1] >= 1 && a[0]*a[1] <= 10:
		r = rectangleOrder(a[0], a[1])
	case name == "stairs" && a[0] >= 1 && a[0] <= 4:
		r = stairsBy(a[0])
	case name == "fence" && a[0] >= 1 && a[0] <= 10:
		r = fenceBy(a[0])
	case name == "dual":
		r, next.s = d.p.r.turned(), d.p.r.dualOfSet(d.s)
	case name != "poset":
		return d, "", false
	}
	next.p = toldOf(r)
	return next, next.p.text, true
}

// other returns the ideal behind a line with an effect on the Ideal alone, and -1 for other lines.
func (d modelDesk) other(name string, numbers []int) (int, bool) {
	r := d.p.r
	switch name {
	case "take":
		return numbers[0], numbers[0] < power(len(r)) && r.isIdeal(numbers[0])
	case "toggle":
		if numbers[0] >= len(r) {
			return 0, false
		}
		return r.toggled(d.s, numbers[0]), true
	case "row":
		return d.p.next[d.s], true
	case "back":
		return d.p.before[d.s], true
	case "times":
		if numbers[0] > 1000 {
			return 0, false
		}
		s := d.s
		for range numbers[0] {
			s = d.p.next[s]
		}
		return s, true
	case "vacuate", "gyrate":
		if !r.isRanked() {
			return 0, false
		}
		ranks := r.rankLists()
		word := vacuationWord(len(ranks) - 1)
		if name == "gyrate" {
			word = gyrationWord(len(ranks) - 1)
		}
		return r.toggledAt(d.s, elementsAlong(ranks, word)), true
	}
	return -1, false
}

// answer returns the reply to a line without an effect, and nothing for other lines.
func (d modelDesk) answer(name string) string {
	switch name {
	case "show":
		return d.p.text
	case "ideal":
		return strconv.Itoa(d.s)
	case "size":
		return strconv.Itoa(d.p.r.sizeOf(d.s))
	case "orbit":
		return withCommas(orbitIn(d.p.next, d.s))
	case "ideals":
		return strconv.Itoa(d.p.ideals)
	case "orders":
		return strconv.Itoa(d.p.orders)
	case "lengths":
		return withCommas(d.p.lengths)
	case "mean":
		return d.p.mean
	case "even":
		if d.p.even {
			return "yes"
		}
		return "unlike"
	}
	return ""
}

func withCommas(list []int) string {
	text := ""
	for k, n := range list {
		if k > 0 {
			text += ","
		}
		text += strconv.Itoa(n)
	}
	return text
}

// consoleDesks have all posets of turnPosets, each with all its ideals or, if it has many, with some of them.
func consoleDesks() []impl.Desk {
	var list []impl.Desk
	for _, p := range turnPosets() {
		ideals := relationOf(p.Less).ideals()
		if len(ideals) > 12 {
			k := len(ideals)
			ideals = []int{0, ideals[1], ideals[k/3], ideals[k/2], ideals[k-2], ideals[k-1]}
		}
		for _, s := range ideals {
			list = append(list, impl.Desk{Poset: p, Ideal: s})
		}
	}
	return list
}

// fewDesks have posets of several kinds: ranked or not, with evenly sized orbits or not, of 1 to 10 elements.
func fewDesks() []impl.Desk {
	square := posetWith(4, [2]int{0, 1}, [2]int{0, 2}, [2]int{1, 3}, [2]int{2, 3})
	return []impl.Desk{
		{Poset: square, Ideal: 0}, {Poset: square, Ideal: 5}, {Poset: antichainOf(1), Ideal: 1}, {Poset: pentagon(), Ideal: 7},
		{Poset: posetWith(3, [2]int{0, 2}, [2]int{1, 2}), Ideal: 2}, {Poset: chainOf(10), Ideal: 31}, {Poset: antichainOf(6), Ideal: 42},
	}
}

// badDesks are no desks: those with posets that are none, and those with sets that are no ideals.
func badDesks() []impl.Desk {
	list := []impl.Desk{{}, {Ideal: 1}, {Ideal: -1}}
	for _, p := range badPosets() {
		for _, s := range []int{0, 1, -1, power(len(p.Less)%11) - 1} {
			list = append(list, impl.Desk{Poset: p, Ideal: s})
		}
	}
	for _, d := range fewDesks() {
		r := relationOf(d.Poset.Less)
		for _, s := range notSetsOf(len(r)) {
			list = append(list, impl.Desk{Poset: d.Poset, Ideal: s})
		}
		for s := range power(len(r)) {
			if !r.isIdeal(s) {
				list = append(list, impl.Desk{Poset: d.Poset, Ideal: s})
			}
		}
	}
	return list
}

// fitLines are lines of the table, with numbers and texts that fit some desks.
func fitLines() []string {
	lines := []string{
		"poset 1:-", "poset 2:-", "poset 3:0<1,1<2", "poset 4:0<1,0<2,1<3,2<3", "poset 5:0<1,0<2,1<4,2<3,3<4", "poset 4:0<1,1<3,2<3", "poset 10:0<9",
		"rectangle 1 1", "rectangle 2 2", "rectangle 2 3", "rectangle 3 2", "rectangle 2 5", "rectangle 5 2", "rectangle 10 1", "rectangle 3 4", "rectangle 0 3", "rectangle 3 0",
		"stairs 1", "stairs 3", "stairs 4", "stairs 0", "stairs 5", "fence 1", "fence 2", "fence 5", "fence 10", "fence 0", "fence 11",
		"dual", "row", "back", "vacuate", "gyrate", "times 0", "times 1", "times 2", "times 3", "times 7", "times 999", "times 1000", "times 1001", "times 999999",
		"show", "ideal", "size", "orbit", "ideals", "orders", "lengths", "mean", "even",
	}
	for _, s := range []int{0, 1, 2, 3, 5, 6, 7, 8, 12, 15, 16, 31, 1022, 1023, 1024, 999999} {
		lines = append(lines, "take "+strconv.Itoa(s))
	}
	for e := range 12 {
		lines = append(lines, "toggle "+strconv.Itoa(e))
	}
	return lines
}

// strangeLines are none of the table, each for another reason.
func strangeLines() []string {
	lines := []string{
		"", " ", "  ", "   ", "fly", "what", "no", "yes", "poset P", "take S", "toggle E", "Row", "ROW", "rows", "ro", "r", "order", "orbits", "rectangles 2 2", "stair 2", "fences 2",
		"row\t", "\trow", "row\r", "row\x00", "\x00", "row,", "row;row", "row,row", "row.", "\xff", "r\xc3\xb6w", "\xef\xbb\xbfrow", "take\t0", "take,0", "take0", "take=0", "take\u00a00",
		"0", "1", "4:0<1,0<2,1<3,2<3", "4:0<1,0<2,1<3,2<3 poset", "0 take", "take 0 0", "take row", "row row", "2 rectangle 2", "rectangle 2x2", "rectangle 2,2", "rectangle 2 2 2",
		strings.Repeat("row", 1000), strings.Repeat("row ", 750), strings.Repeat(" ", 3000), "take " + strings.Repeat("0", 2995), "take " + strings.Repeat("9", 2995), "take" + strings.Repeat(" 0", 1498),
		"poset " + strings.Repeat("1:-", 998), "poset" + strings.Repeat(" 1:-", 748), "poset 3:" + strings.Repeat("0<1,", 700) + "1<2",
	}
	for _, line := range fitLines() {
		lines = append(lines, " "+line, line+" ", "  "+line, line+"  ", " "+line+" ", line+" 0", line+" 1:-", line+" "+line)
		if name, rest, isLonger := strings.Cut(line, " "); isLonger {
			lines = append(lines, name, name+" ", name+"  "+rest, rest, rest+" "+name)
		}
	}
	return lines
}

// someScripts mixes lines of the table and strange ones, as chance has it, which is the same each time.
func someScripts(count int) []string {
	chance := rand.New(rand.NewPCG(10, 29))
	fit, strange := fitLines(), []string{"", " ", "fly", "row ", " row", "take  0", "take 00", "toggle", "poset 3:0<1,0<1", "poset 0", "ideal 1"}
	var scripts []string
	for len(scripts) < count {
		script := ""
		for range chance.IntN(51) {
			line := fit[chance.IntN(len(fit))]
			switch chance.IntN(8) {
			case 0:
				line = strange[chance.IntN(len(strange))]
			case 1, 2, 3:
				// Numbers that are often elements, and often ideals.
				line = []string{"toggle ", "take ", "times "}[chance.IntN(3)] + strconv.Itoa(chance.IntN(8))
			}
			script += line + "\n"
		}
		if len(script) <= 3000 {
			scripts = append(scripts, script)
		}
	}
	return scripts
}

// endedLines cuts a script at its newlines.
func endedLines(script string) []string {
	lines := strings.SplitAfter(script, "\n")
	lines = lines[:len(lines)-1]
	for k := range lines {
		lines[k] = strings.TrimSuffix(lines[k], "\n")
	}
	return lines
}

// notScripts have no newline at the end, or too many lines or bytes.
func notScripts() []string {
	return []string{
		"row", " ", "0", "\x00", "\xff", "\r", "row\nrow", "row\n\nrow", "\nrow", "\n ", "row\n ", "row\r", "row\n\x00", "row\nrow\nrow\nrow\nrow",
		strings.Repeat("\n", 51), strings.Repeat("\n", 52), strings.Repeat("\n", 100), strings.Repeat("\n", 3000), strings.Repeat("\n", 50) + "row", strings.Repeat("\n", 50) + " ",
		strings.Repeat("row\n", 51), strings.Repeat("row\n", 50) + "row", strings.Repeat("row\n", 50) + "\n", strings.Repeat("row\n", 750), strings.Repeat("row\n", 100000),
		strings.Repeat("x", 3000), strings.Repeat("x", 3000) + "\n", "row\n" + strings.Repeat("x", 2996) + "\n", strings.Repeat(" ", 3000) + "\n", strings.Repeat("x", 2999) + "\nrow\n",
		strings.Repeat("x", 3001), strings.Repeat("x", 1000000), strings.Repeat("\xff", 100000) + "\n", strings.Repeat("show\n"+strings.Repeat("x", 119)+"\n", 24) + "\n",
	}
}
