package tests

import (
	"math"
	"math/cmplx"
	"slices"
)

// What the seventh chapter says of remainders and turns, once more, with roots of unity as complex numbers.

// idealsBySize counts the ideals of a rectangle.
func idealsBySize(a, b int) []int {
	r := rectangleOrder(a, b)
	counts := make([]int, a*b+1)
	for _, s := range r.ideals() {
		counts[r.sizeOf(s)]++
	}
	return counts
}

// tableauxByMajor counts the tableaux of a rectangle by the sums of their descents, less a (a - 1) / 2 times b.
func tableauxByMajor(a, b int) []int {
	var counts []int
	for _, rows := range tableauxOf(a, b) {
		k := sumBy(descentsIn(rows), func(descent int) int { return descent }) - a*(a-1)/2*b
		for len(counts) <= k {
			counts = append(counts, 0)
		}
		counts[k]++
	}
	return counts
}

// isQuotient multiplies a polynomial with all lower factors 1 - q^k, and compares that with the product of all upper ones.
func isQuotient(list, upper, lower []int) bool {
	one, other := slices.Clone(list), []int{1}
	for _, k := range lower {
		one = multiplied(one, lessPower(k))
	}
	for _, k := range upper {
		other = multiplied(other, lessPower(k))
	}
	return slices.Equal(one, other)
}

// hooksOf has the hooks of all cells.
func hooksOf(a, b int) []int {
	var hooks []int
	for r := range a {
		for c := range b {
			hooks = append(hooks, hookCells(a, b, r, c))
		}
	}
	return hooks
}

// upTo has the numbers first..last.
func upTo(first, last int) []int {
	var numbers []int
	for k := first; k <= last; k++ {
		numbers = append(numbers, k)
	}
	return numbers
}

// restsOf looks for each remainder in all indices.
func restsOf(coefficients []int, n int) []int {
	var rests []int
	for r := range n {
		sum := 0
		for i, coefficient := range coefficients {
			if i%n == r {
				sum += coefficient
			}
		}
		rests = append(rests, sum)
	}
	return rests
}

// greatestDivisor tries all numbers down from n; each one divides 0.
func greatestDivisor(n, r int) int {
	for k := n; k > 1; k-- {
		if n%k == 0 && r%k == 0 {
			return k
		}
	}
	return 1
}

// rootPower is the power k of the first root of unity of order n.
func rootPower(n, k int) complex128 {
	return cmplx.Rect(1, 2*math.Pi*float64(k%n)/float64(n))
}

// wholeOf rounds a sum that is a whole number.
func wholeOf(sum complex128) (int, bool) {
	whole := math.Round(real(sum))
	return int(whole), cmplx.Abs(sum-complex(whole, 0)) < 0.001
}

// rootSumOf adds the powers of the roots of unity of order m that are of no lesser one.
func rootSumOf(m, d int) (int, bool) {
	sum := complex(0, 0)
	for j := range m {
		if greatestDivisor(m, j) == 1 {
			sum += rootPower(m, j*d)
		}
	}
	return wholeOf(sum)
}

// signByDocument looks for squares, and counts the prime divisors.
func signByDocument(n int) int {
	sign := 1
	for k := 2; k <= n; k++ {
		if n%(k*k) == 0 {
			return 0
		}
		if n%k == 0 && len(divisorsByTrial(k)) == 2 {
			sign = -sign
		}
	}
	return sign
}

func divisorsByTrial(n int) []int {
	var divisors []int
	for k := 1; k <= n; k++ {
		if n%k == 0 {
			divisors = append(divisors, k)
		}
	}
	return divisors
}

// rootSumByDocument is the sum over all k that divide m and d.
func rootSumByDocument(m, d int) int {
	sum := 0
	for _, k := range divisorsByTrial(m) {
		if d%k == 0 {
			sum += k * signByDocument(m/k)
		}
	}
	return sum
}

// valueOf adds all remainders, each times a power of a root of unity.
func valueOf(rests []int, d int) (int, bool) {
	sum := complex(0, 0)
	for r, rest := range rests {
		sum += complex(float64(rest), 0) * rootPower(len(rests), d*r)
	}
	return wholeOf(sum)
}

// areRemainders says whether a list has 1..60 numbers in 0..100000000.
func areRemainders(list []int) bool {
	return len(list) >= 1 && len(list) <= 60 && slices.Min(list) >= 0 && slices.Max(list) <= 100_000_000
}

// areAlike says whether any two remainders with the same greatest common divisor are equal.
func areAlike(rests []int) bool {
	n := len(rests)
	for r := range rests {
		for s := range rests {
			if greatestDivisor(n, r) == greatestDivisor(n, s) && rests[r] != rests[s] {
				return false
			}
		}
	}
	return true
}

// alikeBy fills in remainders, each one by its greatest common divisor with their number.
func alikeBy(n int, number func(g int) int) []int {
	var rests []int
	for r := range n {
		rests = append(rests, number(greatestDivisor(n, r)))
	}
	return rests
}

// orbitsBy solves for the numbers of orbits, the last ones as they have to be.
func orbitsBy(rests []int) ([]int, bool) {
	n := len(rests)
	counts := map[int]int{}
	var orbits []int
	for _, g := range divisorsByTrial(n) {
		counts[g] = rests[g%n]
		for _, lesser := range divisorsByTrial(g) {
			if lesser < g {
				counts[g] -= counts[lesser]
			}
		}
		if counts[g] < 0 {
			return nil, false
		}
		orbits = append(orbits, counts[g])
	}
	return orbits, true
}

// sievedBy has the remainders that sieve a turn with such stabilizers.
func sievedBy(stabilizers []int, n int) []int {
	rests := make([]int, n)
	for r := range n {
		for _, stabilizer := range stabilizers {
			// Multiples up to r, of which 0 is one.
			for multiple := 0; multiple <= r; multiple += stabilizer {
				if multiple == r {
					rests[r]++
				}
			}
		}
	}
	return rests
}

// tableauOrbits follows each tableau by slides until it is there again, and returns the lengths of the orbits.
func tableauOrbits(a, b int) []int {
	var lengths []int
	seen := map[[10]int]bool{}
	for _, rows := range tableauxOf(a, b) {
		length := 0
		for !seen[keyOf(slices.Concat(rows...))] {
			seen[keyOf(slices.Concat(rows...))] = true
			rows = promotedBySlides(rows)
			length++
		}
		if length > 0 {
			lengths = append(lengths, length)
		}
	}
	return lengths
}

// tableauxFixed counts the tableaux that d slides lead back.
func tableauxFixed(a, b, d int) int {
	fixed := 0
	for _, first := range tableauxOf(a, b) {
		rows := first
		for range d {
			rows = promotedBySlides(rows)
		}
		if sameRows(rows, first) {
			fixed++
		}
	}
	return fixed
}

// stabilizersBy divides a turn by the lengths of its orbits.
func stabilizersBy(steps int, lengths []int) []int {
	var stabilizers []int
	for _, length := range lengths {
		stabilizers = append(stabilizers, steps/length)
	}
	slices.Sort(stabilizers)
	return stabilizers
}

// notTurns are no numbers of remainders.
func notTurns() []int {
	return []int{0, -1, -2, -60, 61, 62, 100, 120, 1 << 32, -1 << 32, 1<<32 + 1, 1 << 62, math.MaxInt, math.MinInt}
}

// notSteps are no numbers of steps.
func notSteps() []int { return notTurns()[1:] }

// notStabilizers are no stabilizers.
func notStabilizers() []int { return notTurns() }
