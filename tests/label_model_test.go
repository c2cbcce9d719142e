package tests

import (
	"math"
	"math/big"
	"slices"

	"loop.example/g01138/impl"
)

// What the sixth chapter says of labels, once more, on the tables of model_test.go.

func (r relation) isLabels(f []int, m int, strict bool) bool {
	if len(f) != len(r) {
		return false
	}
	for _, x := range f {
		if x < 0 || x > m {
			return false
		}
	}
	return r.rises(f, strict)
}

// rises compares the numbers of all elements that have one.
func (r relation) rises(f []int, strict bool) bool {
	for j := range f {
		for i := range f {
			if r[j][i] && (f[j] > f[i] || strict && f[j] == f[i]) {
				return false
			}
		}
	}
	return true
}

// labels returns all labels, those with lesser numbers first.
func (r relation) labels(m int, strict bool) [][]int {
	var list [][]int
	var fill func(f []int)
	fill = func(f []int) {
		if len(f) == len(r) {
			list = append(list, f)
			return
		}
		for x := 0; x <= m; x++ {
			if longer := append(f[:len(f):len(f)], x); r.rises(longer, strict) {
				fill(longer)
			}
		}
	}
	fill(nil)
	return list
}

// steps counts the strict labels that take just the numbers up to the greatest one.
func (r relation) steps() []int {
	steps := make([]int, len(r))
	for _, f := range r.labels(len(r)-1, true) {
		numbers := slices.Compact(slices.Sorted(slices.Values(f)))
		if len(numbers) == slices.Max(f)+1 {
			steps[slices.Max(f)]++
		}
	}
	return steps
}

// fallsOf returns, for each linear extension, how often an element is followed by a lesser number: labels belong
// to the one that has the elements by their labels, and by their numbers where these are equal.
func (r relation) fallsOf() []int {
	var falls []int
	for _, w := range r.linears() {
		count := 0
		for i := 1; i < len(w); i++ {
			if w[i] < w[i-1] {
				count++
			}
		}
		falls = append(falls, count)
	}
	return falls
}

// labelsByLines counts labels by the falls of linear extensions: along one of them they rise where it falls.
func labelsByLines(falls []int, n, m int) int {
	count := 0
	for _, k := range falls {
		count += choose(m+n-k, n)
	}
	return count
}

// strictByLines counts strict labels, which rise along a linear extension where it does not fall.
func strictByLines(falls []int, n, m int) int {
	count := 0
	for _, k := range falls {
		count += choose(m+1+k, n)
	}
	return count
}

// stepsByLines chooses where the labels rise along a linear extension, beside the places where they have to.
func stepsByLines(falls []int, n int) []int {
	steps := make([]int, n)
	for _, k := range falls {
		for rises := n - 1 - k; rises <= n-1; rises++ {
			steps[rises] += choose(k, rises-(n-1-k))
		}
	}
	return steps
}

// polynomialOf is the sum in the document.
func polynomialOf(steps []int, x int) int {
	sum := big.NewInt(0)
	for i, ways := range steps {
		term := big.NewInt(int64(ways))
		for j := 0; j <= i; j++ {
			term.Mul(term, big.NewInt(int64(x-j)))
		}
		for j := 1; j <= i+1; j++ {
			// The remainder may only go when all factors are there.
			if _, rest := new(big.Int).QuoRem(term, big.NewInt(int64(j)), new(big.Int)); rest.Sign() != 0 {
				return math.MinInt
			}
			term.Quo(term, big.NewInt(int64(j)))
		}
		sum.Add(sum, term)
	}
	return int(sum.Int64())
}

func sumsOf(lists [][]int, greatest int) []int {
	counts := make([]int, greatest+1)
	for _, f := range lists {
		counts[sumBy(f, func(x int) int { return x })]++
	}
	return counts
}

// multiplied returns the product of two polynomials.
func multiplied(one, other []int) []int {
	product := make([]int, len(one)+len(other)-1)
	for i, x := range one {
		for j, y := range other {
			product[i+j] += x * y
		}
	}
	return product
}

// lessPower is 1 - q^k.
func lessPower(k int) []int {
	factor := make([]int, k+1)
	factor[0], factor[k] = 1, -1
	return factor
}

// boxByDocument is the product with all its factors.
func boxByDocument(a, b, m int) *big.Rat {
	product := big.NewRat(1, 1)
	for r := 1; r <= a; r++ {
		for c := 1; c <= b; c++ {
			for k := 1; k <= m; k++ {
				product.Mul(product, big.NewRat(int64(r+c+k-1), int64(r+c+k-2)))
			}
		}
	}
	return product
}

// isBoxBySum multiplies a list with all lower factors, and compares that with the product of all upper ones. As
// numbers that are too large wrap around in the same way on both sides, the sum of the list is looked at, too.
func isBoxBySum(list []int, a, b, m int) bool {
	lower, upper := slices.Clone(list), []int{1}
	for r := 1; r <= a; r++ {
		for c := 1; c <= b; c++ {
			for k := 1; k <= m; k++ {
				lower = multiplied(lower, lessPower(r+c+k-2))
				upper = multiplied(upper, lessPower(r+c+k-1))
			}
		}
	}
	sum := big.NewRat(0, 1)
	for _, count := range list {
		if count < 0 {
			return false
		}
		sum.Add(sum, big.NewRat(int64(count), 1))
	}
	return slices.Equal(lower, upper) && sum.Cmp(boxByDocument(a, b, m)) == 0
}

// idealsIn looks for the elements with less than each number.
func idealsIn(f []int, m int) []int {
	var ideals []int
	for k := 1; k <= m; k++ {
		s := 0
		for e, x := range f {
			if x < k {
				s += power(e)
			}
		}
		ideals = append(ideals, s)
	}
	return ideals
}

// isChainOfIdeals says whether a list has only ideals, each one part of the next one.
func (r relation) isChainOfIdeals(list []int) bool {
	for k, s := range list {
		if s < 0 || s >= power(len(r)) || !r.isIdeal(s) {
			return false
		}
		for e := range r {
			if k > 0 && in(e, list[k-1]) && !in(e, s) {
				return false
			}
		}
	}
	return len(list) <= 12
}

// labelsIn looks for the first ideal with each element.
func (r relation) labelsIn(ideals []int) []int {
	var f []int
	for e := range r {
		first := slices.IndexFunc(ideals, func(s int) bool { return in(e, s) })
		if first < 0 {
			first = len(ideals)
		}
		f = append(f, first)
	}
	return f
}

// complementOf has m less the labels, from the last one on.
func complementOf(f []int, m int) []int {
	var other []int
	for k := len(f) - 1; k >= 0; k-- {
		other = append(other, m-f[k])
	}
	return other
}

// smallPosets are all posets of up to so many elements.
func smallPosets(most int) []impl.Poset {
	var list []impl.Poset
	for n := 1; n <= most; n++ {
		list = append(list, everyPoset(n)...)
	}
	return list
}

func antichainOf(n int) impl.Poset { return impl.Poset{Less: make([]int, n)} }

// notBounds are no bounds.
func notBounds() []int {
	return []int{-1, -2, -12, -13, 13, 14, 100, 1 << 32, -1 << 32, 1 << 62, math.MaxInt, math.MinInt}
}
