package tests

import (
	"math/bits"

	"ticking/api"
)

// maxResults is how many results Left takes.
const maxResults = 100

// set is a set of faults, or of tests, with a bit for each of them.
type set uint16

// allBelow returns the set of the numbers from 0 to n - 1.
func allBelow(n int) set { return 1<<n - 1 }

func (s set) size() int { return bits.OnesCount16(uint16(s)) }

func (s set) least() int { return bits.TrailingZeros16(uint16(s)) }

// members returns the numbers of the set in ascending order.
func (s set) members() []int {
	var list []int
	for ; s != 0; s &= s - 1 {
		list = append(list, s.least())
	}
	return list
}

// bench is a case whose results are also there as sets.
type bench struct {
	api.Case
	ones  []set // for each test the faults with the result 1
	marks []set // for each fault the tests with the result 1
}

func lay(c api.Case) bench {
	b := bench{Case: c, ones: make([]set, len(c.Tests)), marks: make([]set, len(c.Weights))}
	for test, results := range c.Tests {
		for fault, result := range results {
			b.ones[test] |= set(result) << fault
			b.marks[fault] |= set(result) << test
		}
	}
	return b
}

// solvable returns the bench of a case in which the tests tell all faults apart.
func solvable(c api.Case) (bench, api.Errno) {
	if !valid(c) {
		return bench{}, api.ErrArg
	}
	b := lay(c)
	if len(b.alike(b.tests())) > 0 {
		return bench{}, api.ErrNone
	}
	return b, api.OK
}

func (b bench) faults() set { return allBelow(len(b.Weights)) }

func (b bench) tests() set { return allBelow(len(b.Tests)) }

// split returns the faults of the set with the result 0 of the test, and those with the result 1.
func (b bench) split(faults set, test int) [2]set {
	return [2]set{faults &^ b.ones[test], faults & b.ones[test]}
}

// weight returns the sum of the weights of the faults.
func (b bench) weight(faults set) int {
	sum := 0
	for _, fault := range faults.members() {
		sum += b.Weights[fault]
	}
	return sum
}

// alike returns the pairs of faults that have the same results in the chosen tests, in lexicographic order.
func (b bench) alike(chosen set) [][2]int {
	var pairs [][2]int
	for first := range b.marks {
		for second := first + 1; second < len(b.marks); second++ {
			if (b.marks[first]^b.marks[second])&chosen == 0 {
				pairs = append(pairs, [2]int{first, second})
			}
		}
	}
	return pairs
}

// valid reports whether c is a case.
func valid(c api.Case) bool {
	n := len(c.Weights)
	if n < 1 || n > api.MaxFaults || len(c.Tests) > api.MaxTests || len(c.Costs) != len(c.Tests) {
		return false
	}
	for _, results := range c.Tests {
		if len(results) != n || !allFrom(0, 1, results) {
			return false
		}
	}
	return allFrom(1, api.MaxWeight, c.Weights) && allFrom(1, api.MaxCost, c.Costs)
}

// allFrom reports whether all numbers are from low to high.
func allFrom(low, high int, numbers []int) bool {
	for _, k := range numbers {
		if k < low || k > high {
			return false
		}
	}
	return true
}

// below reports whether k is from 0 to n - 1.
func below(k, n int) bool { return k >= 0 && k < n }
