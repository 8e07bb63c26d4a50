package tests_test

import (
	"cmp"
	"math"
	"math/big"
	"math/rand"
	"slices"
	"testing"

	"ticking/api"
	"ticking/tests"
)

// P7.3: the greedy plan.

// greedyPlan follows the document.
func greedyPlan(c api.Case, faults []int) []api.Node {
	if len(faults) == 1 {
		return []api.Node{leaf(faults[0])}
	}
	var greatest *big.Rat
	first := 0
	for test, cost := range c.Costs {
		zero, one := divide(c, faults, test)
		if len(zero) == 0 || len(one) == 0 {
			continue
		}
		share := big.NewRat(int64(min(weightOf(c, zero), weightOf(c, one))), int64(cost))
		if greatest == nil || share.Cmp(greatest) > 0 {
			greatest, first = share, test
		}
	}
	zero, one := divide(c, faults, first)
	return joined(first, greedyPlan(c, zero), greedyPlan(c, one))
}

func checkGreedy(t *testing.T, c api.Case) {
	t.Helper()
	var want []api.Node
	wantE := api.ErrNone
	if len(likePairs(c)) == 0 {
		want, wantE = greedyPlan(c, upTo(len(c.Weights))), api.OK
	}
	plan, e := tests.Greedy(c)
	if !slices.Equal(plan, want) || e != wantE {
		t.Fatalf("Greedy(%v) = %v, %d, not %v, %d", c, plan, e, want, wantE)
	}
	if _, _, ok := measure(c, plan); ok != (e == api.OK) {
		t.Fatalf("Greedy(%v) = %v, which is not correct", c, plan)
	}
}

func TestGreedySome(t *testing.T) {
	for _, c := range slices.Concat(smallCases(), manyCases(31, 1000, 10, 12), solvableCases(32, 2000, 10, 12), solvableCases(33, 2000, 5, 4)) {
		checkGreedy(t, c)
	}
}

func TestGreedyNamed(t *testing.T) {
	halves := [][]int{{0, 0, 0, 1}, {0, 0, 1, 1}, {0, 1, 0, 1}}
	for _, c := range []struct {
		weights, costs []int
		want           []api.Node
	}{
		// Shares 1, 2, 2: the first one of those with 2, and then the one of the others that is first or not.
		{[]int{1, 1, 1, 1}, []int{1, 1, 1}, []api.Node{fork(1, 1, 4), fork(2, 2, 3), leaf(0), leaf(1), fork(0, 5, 6), leaf(2), leaf(3)}},
		// Shares 1, 1, 2/3: equal ones of different costs.
		{[]int{1, 1, 1, 1}, []int{1, 2, 3}, []api.Node{fork(0, 1, 6), fork(1, 2, 5), fork(2, 3, 4), leaf(0), leaf(1), leaf(2), leaf(3)}},
		// Shares 4/1, 5/2, 5/1.
		{[]int{9, 1, 1, 4}, []int{1, 2, 1}, []api.Node{fork(2, 1, 4), fork(1, 2, 3), leaf(0), leaf(2), fork(0, 5, 6), leaf(1), leaf(3)}},
		// Shares 33/100, 34/100, 34/99: all of them less than 1.
		{[]int{33, 33, 1, 33}, []int{100, 100, 99}, []api.Node{fork(2, 1, 4), fork(1, 2, 3), leaf(0), leaf(2), fork(0, 5, 6), leaf(1), leaf(3)}},
	} {
		k := api.Case{Weights: c.weights, Tests: halves, Costs: c.costs}
		checkGreedy(t, k)
		if plan, e := tests.Greedy(k); !slices.Equal(plan, c.want) || e != api.OK {
			t.Errorf("Greedy(%v) = %v, %d", k, plan, e)
		}
	}
}

// P7.4: sets.

// coverOf tries all sets of tests.
func coverOf(c api.Case) ([]int, bool) {
	var best []int
	found := false
	for chosen := range 1 << len(c.Tests) {
		var list []int
		for test := range c.Tests {
			if chosen>>test&1 == 1 {
				list = append(list, test)
			}
		}
		if !tellsApart(c, list) {
			continue
		}
		if !found || cmp.Or(cmp.Compare(len(list), len(best)), slices.Compare(list, best)) < 0 {
			best, found = list, true
		}
	}
	return best, found
}

func tellsApart(c api.Case, list []int) bool {
	for a := range c.Weights {
		for b := range a {
			if slices.Equal(resultsOf(c, a, list), resultsOf(c, b, list)) {
				return false
			}
		}
	}
	return true
}

func TestCoverSome(t *testing.T) {
	none := 0
	for _, c := range slices.Concat(smallCases(), manyCases(34, 400, 10, 9), solvableCases(35, 200, 10, 10), solvableCases(36, 500, 5, 8)) {
		want, found := coverOf(c)
		wantE := api.OK
		if !found {
			wantE = api.ErrNone
			none++
		}
		if list, e := tests.Cover(c); !slices.Equal(list, want) || e != wantE {
			t.Fatalf("Cover(%v) = %v, %d, not %v, %d", c, list, e, want, wantE)
		}
	}
	if none < 100 {
		t.Errorf("only %d cases have no set of tests", none)
	}
}

func TestCoverNamed(t *testing.T) {
	low, high := []int{0, 1, 0, 1}, []int{0, 0, 1, 1}
	first, second, third := []int{1, 0, 0, 0}, []int{0, 1, 0, 0}, []int{0, 0, 1, 0}
	for _, c := range []struct {
		tests [][]int
		want  []int
		e     api.Errno
	}{
		{[][]int{low, high}, []int{0, 1}, api.OK},
		{[][]int{low, low, high, high}, []int{0, 2}, api.OK},
		// A smaller set comes before one with smaller numbers.
		{[][]int{first, second, third, low, high}, []int{3, 4}, api.OK},
		{[][]int{first, low, high, low}, []int{1, 2}, api.OK},
		{[][]int{first, second, third, low, third}, []int{0, 1, 2}, api.OK},
		{[][]int{first, first, second, low, low, third}, []int{0, 2, 3}, api.OK},
		{[][]int{low, low, first}, nil, api.ErrNone},
		{nil, nil, api.ErrNone},
	} {
		k := api.Case{Weights: []int{1, 1, 1, 1}, Tests: c.tests, Costs: slices.Repeat([]int{1}, len(c.tests))}
		if list, e := tests.Cover(k); !slices.Equal(list, c.want) || e != c.e {
			t.Errorf("Cover(%v) = %v, %d", k, list, e)
		}
	}
	// The costs and the weights change nothing.
	k := api.Case{Weights: []int{9, 1, 1, 1}, Tests: [][]int{low, high, low}, Costs: []int{100, 100, 1}}
	if list, e := tests.Cover(k); !slices.Equal(list, []int{0, 1}) || e != api.OK {
		t.Errorf("Cover(%v) = %v, %d", k, list, e)
	}
}

func leftOf(c api.Case, pairs [][2]int) []int {
	var left []int
	for fault := range c.Weights {
		if !slices.ContainsFunc(pairs, func(p [2]int) bool { return c.Tests[p[0]][fault] != p[1] }) {
			left = append(left, fault)
		}
	}
	return left
}

func TestLeftSome(t *testing.T) {
	x := rand.New(rand.NewSource(37))
	for _, c := range slices.Concat(smallCases(), manyCases(38, 1000, 10, 12)) {
		for range 6 {
			fault := x.Intn(len(c.Weights))
			var pairs [][2]int
			for range x.Intn(6) {
				if len(c.Tests) == 0 {
					break
				}
				test := x.Intn(len(c.Tests))
				result := c.Tests[test][fault]
				if x.Intn(8) == 0 {
					result = 1 - result
				}
				pairs = append(pairs, [2]int{test, result})
			}
			if left, e := tests.Left(c, pairs); !slices.Equal(left, leftOf(c, pairs)) || e != api.OK {
				t.Fatalf("Left(%v, %v) = %v, %d", c, pairs, left, e)
			}
		}
	}
}

func TestLeftNamed(t *testing.T) {
	for _, c := range []struct {
		pairs [][2]int
		want  []int
	}{
		{nil, []int{0, 1, 2}},
		{[][2]int{}, []int{0, 1, 2}},
		{[][2]int{{0, 0}}, []int{1, 2}},
		{[][2]int{{0, 0}, {0, 0}}, []int{1, 2}},
		{[][2]int{{1, 0}, {0, 0}}, []int{2}},
		{[][2]int{{0, 1}, {1, 1}}, nil},
		{[][2]int{{0, 1}, {0, 0}}, nil},
		{slices.Repeat([][2]int{{1, 0}, {1, 0}}, 50), []int{0, 2}},
	} {
		if left, e := tests.Left(example(), c.pairs); !slices.Equal(left, c.want) || e != api.OK {
			t.Errorf("Left(%v) = %v, %d", c.pairs, left, e)
		}
	}
}

func TestLeftErrors(t *testing.T) {
	wrong := [][][2]int{slices.Repeat([][2]int{{1, 0}}, 101), slices.Repeat([][2]int{{0, 1}, {0, 0}}, 10000)}
	for _, p := range [][2]int{{-1, 0}, {2, 0}, {12, 1}, {0, -1}, {0, 2}, {math.MinInt, 0}, {math.MaxInt, 0}, {0, math.MinInt}, {0, math.MaxInt}} {
		// Also where no fault is left before it.
		wrong = append(wrong, [][2]int{p}, [][2]int{p, {0, 0}}, [][2]int{{0, 0}, p}, [][2]int{{0, 0}, {0, 1}, p})
	}
	for _, pairs := range wrong {
		if left, e := tests.Left(example(), pairs); len(left) != 0 || e != api.ErrArg {
			t.Errorf("Left(%v) = %v, %d", pairs, left, e)
		}
	}
	if left, e := tests.Left(api.Case{Weights: []int{1}}, [][2]int{{0, 0}}); len(left) != 0 || e != api.ErrArg {
		t.Errorf("Left without tests = %v, %d", left, e)
	}
}

// The tests that Find returns, with their results, leave the fault alone (P7.5).
func TestFoundFaultIsLeft(t *testing.T) {
	x := rand.New(rand.NewSource(39))
	for _, c := range solvableCases(40, 600, 10, 12) {
		best, _, _ := tests.Best(c)
		worst, _, _ := tests.Worst(c)
		greedy, _ := tests.Greedy(c)
		for _, plan := range [][]api.Node{best, worst, greedy, somePlan(x, c, upTo(len(c.Weights)))} {
			for fault := range c.Weights {
				list, e := tests.Find(c, plan, fault)
				if len(list) > 100 || len(plan) > 1000 {
					continue
				}
				var pairs [][2]int
				for _, test := range list {
					pairs = append(pairs, [2]int{test, c.Tests[test][fault]})
				}
				left, e2 := tests.Left(c, pairs)
				if !slices.Equal(left, []int{fault}) || e != api.OK || e2 != api.OK {
					t.Fatalf("%v, %v: Find(%d) = %v, %d, leaves %v, %d", c, plan, fault, list, e, left, e2)
				}
			}
		}
	}
}
