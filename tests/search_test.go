package tests_test

import (
	"fmt"
	"math/rand"
	"slices"
	"testing"

	"ticking/api"
	"ticking/tests"
)

// P7.1: best plans. P7.5: what is best is best.

// divide returns the faults with the result 0, and those with the result 1.
func divide(c api.Case, faults []int, test int) ([]int, []int) {
	var zero, one []int
	for _, fault := range faults {
		if c.Tests[test][fault] == 0 {
			zero = append(zero, fault)
		} else {
			one = append(one, fault)
		}
	}
	return zero, one
}

func weightOf(c api.Case, faults []int) int {
	sum := 0
	for _, fault := range faults {
		sum += c.Weights[fault]
	}
	return sum
}

// leastOf tries all tests that divide the faults, in all orders; sum makes a total of a cost, a weight, and two totals.
func leastOf(c api.Case, faults []int, known map[string]int, sum func(cost, weight, zero, one int) int) int {
	if len(faults) == 1 {
		return 0
	}
	key := fmt.Sprint(faults)
	if _, ok := known[key]; !ok {
		known[key] = -1
		for test, cost := range c.Costs {
			zero, one := divide(c, faults, test)
			if len(zero) == 0 || len(one) == 0 {
				continue
			}
			total := sum(cost, weightOf(c, faults), leastOf(c, zero, known, sum), leastOf(c, one, known, sum))
			if known[key] < 0 || total < known[key] {
				known[key] = total
			}
		}
	}
	return known[key]
}

func leastMean(c api.Case) int {
	return leastOf(c, upTo(len(c.Weights)), map[string]int{}, func(cost, weight, zero, one int) int { return cost*weight + zero + one })
}

func leastWorst(c api.Case) int {
	return leastOf(c, upTo(len(c.Weights)), map[string]int{}, func(cost, _, zero, one int) int { return cost + max(zero, one) })
}

// checkBest tests the results of Best and Worst: correct plans, of this mean and this worst; ErrNone if they are less than 0.
func checkBest(t *testing.T, c api.Case, wantMean, wantWorst int) {
	t.Helper()
	plan, mean, e := tests.Best(c)
	other, worst, e2 := tests.Worst(c)
	if wantMean < 0 {
		if len(plan) != 0 || mean != 0 || e != api.ErrNone {
			t.Fatalf("Best(%v) = %v, %d, %d", c, plan, mean, e)
		}
		if len(other) != 0 || worst != 0 || e2 != api.ErrNone {
			t.Fatalf("Worst(%v) = %v, %d, %d", c, other, worst, e2)
		}
		return
	}
	if m, _, ok := measure(c, plan); !ok || m != mean || mean != wantMean || e != api.OK {
		t.Fatalf("Best(%v) = %v, %d, %d, not %d", c, plan, mean, e, wantMean)
	}
	if _, w, ok := measure(c, other); !ok || w != worst || worst != wantWorst || e2 != api.OK {
		t.Fatalf("Worst(%v) = %v, %d, %d, not %d", c, other, worst, e2, wantWorst)
	}
}

// The best of all plans, also of those with tests that tell nothing.
func TestBestSmall(t *testing.T) {
	plans := map[[2]int][][]api.Node{}
	for _, c := range smallCases() {
		size := [2]int{len(c.Weights), len(c.Tests)}
		if plans[size] == nil {
			plans[size] = allPlans(size[0], size[1], 2)
		}
		bestMean, bestWorst := -1, -1
		for _, plan := range plans[size] {
			mean, worst, ok := measure(c, plan)
			if ok && (bestMean < 0 || mean < bestMean) {
				bestMean = mean
			}
			if ok && (bestWorst < 0 || worst < bestWorst) {
				bestWorst = worst
			}
		}
		checkBest(t, c, bestMean, bestWorst)
	}
}

func TestBestSome(t *testing.T) {
	none := 0
	for _, c := range slices.Concat(manyCases(11, 500, 10, 12), solvableCases(12, 500, 10, 12), solvableCases(13, 1000, 6, 5)) {
		mean, worst := -1, -1
		if len(likePairs(c)) > 0 {
			none++
		} else {
			mean, worst = leastMean(c), leastWorst(c)
		}
		checkBest(t, c, mean, worst)
	}
	if none < 100 {
		t.Errorf("only %d cases have no plan", none)
	}
}

// The smallest mean and the smallest worst are those of different plans.
func TestBestIsNotWorst(t *testing.T) {
	c := api.Case{Weights: []int{1000, 1, 1, 1}, Tests: [][]int{{1, 0, 0, 0}, {0, 1, 0, 0}, {0, 0, 1, 0}, {0, 0, 1, 1}, {0, 1, 0, 1}}, Costs: []int{1, 1, 1, 1, 1}}
	checkBest(t, c, 1003+3+2, 2)
	// A dear test that tells much, and cheap ones.
	c.Costs = []int{1, 1, 1, 3, 3}
	checkBest(t, c, 1003+3+2, 3)
}

// One fault needs no test, whatever tests there are.
func TestOneFault(t *testing.T) {
	for _, c := range []api.Case{{Weights: []int{1}}, {Weights: []int{1000}, Tests: [][]int{{0}, {1}}, Costs: []int{1, 100}}} {
		for _, search := range []func(api.Case) ([]api.Node, int, api.Errno){tests.Best, tests.Worst} {
			if plan, n, e := search(c); !slices.Equal(plan, []api.Node{leaf(0)}) || n != 0 || e != api.OK {
				t.Errorf("%v: %v, %d, %d", c, plan, n, e)
			}
		}
		if plan, e := tests.Greedy(c); !slices.Equal(plan, []api.Node{leaf(0)}) || e != api.OK {
			t.Errorf("Greedy(%v) = %v, %d", c, plan, e)
		}
		if list, e := tests.Cover(c); len(list) != 0 || e != api.OK {
			t.Errorf("Cover(%v) = %v, %d", c, list, e)
		}
		if pairs, e := tests.Alike(c); len(pairs) != 0 || e != api.OK {
			t.Errorf("Alike(%v) = %v, %d", c, pairs, e)
		}
	}
}

func TestAlike(t *testing.T) {
	many := 0
	for _, c := range slices.Concat(smallCases(), manyCases(14, 2000, 10, 4), manyCases(15, 500, 10, 12)) {
		want := likePairs(c)
		if pairs, e := tests.Alike(c); !slices.Equal(pairs, want) || e != api.OK {
			t.Fatalf("Alike(%v) = %v, %d, not %v", c, pairs, e, want)
		}
		if len(want) > 2 {
			many++
		}
	}
	if many < 500 {
		t.Errorf("only %d cases have many pairs", many)
	}
	// Three alike in one way, and two in another.
	c := api.Case{Weights: []int{1, 1, 1, 1, 1, 1}, Tests: [][]int{{0, 1, 0, 1, 0, 1}, {1, 0, 1, 0, 1, 1}}, Costs: []int{1, 1}}
	if pairs, e := tests.Alike(c); !slices.Equal(pairs, [][2]int{{0, 2}, {0, 4}, {1, 3}, {2, 4}}) || e != api.OK {
		t.Errorf("Alike = %v, %d", pairs, e)
	}
}

// No correct plan has a smaller mean or worst; all have a leaf for each fault.
func TestNoPlanIsBetter(t *testing.T) {
	x := rand.New(rand.NewSource(16))
	for _, c := range solvableCases(17, 400, 10, 12) {
		_, bestMean, _ := tests.Best(c)
		_, bestWorst, _ := tests.Worst(c)
		greedy, e := tests.Greedy(c)
		if e != api.OK {
			t.Fatalf("Greedy(%v): %d", c, e)
		}
		plans := [][]api.Node{greedy}
		for range 20 {
			plans = append(plans, somePlan(x, c, upTo(len(c.Weights))))
		}
		for _, plan := range plans {
			mean, worst, e := tests.Check(c, plan)
			if len(plan) > 1000 {
				continue
			}
			if mean < bestMean || worst < bestWorst || e != api.OK {
				t.Fatalf("%v: %v has %d and %d, %d; best are %d and %d", c, plan, mean, worst, e, bestMean, bestWorst)
			}
			leaves := 0
			for _, n := range plan {
				if n.Test == -1 {
					leaves++
				}
			}
			if leaves < len(c.Weights) {
				t.Fatalf("%v has %d leaves", plan, leaves)
			}
		}
	}
}

// A further test, and a fault less, make nothing worse.
func TestMoreTestsFewerFaults(t *testing.T) {
	x := rand.New(rand.NewSource(18))
	for _, c := range solvableCases(19, 800, 10, 11) {
		_, mean, _ := tests.Best(c)
		_, worst, _ := tests.Worst(c)
		more := copied(c)
		at := x.Intn(len(c.Tests) + 1)
		more.Tests = slices.Insert(more.Tests, at, numbers(x, len(c.Weights), 0, 1))
		more.Costs = slices.Insert(more.Costs, at, 1+x.Intn(100))
		for _, d := range []api.Case{more, without(c, x.Intn(len(c.Weights)))} {
			if len(d.Weights) == 0 {
				continue
			}
			_, m, e := tests.Best(d)
			_, w, e2 := tests.Worst(d)
			if m > mean || w > worst || e != api.OK || e2 != api.OK {
				t.Fatalf("%v has %d and %d, %v has %d and %d", c, mean, worst, d, m, w)
			}
		}
	}
}

// without returns the case without one of its faults.
func without(c api.Case, fault int) api.Case {
	d := copied(c)
	d.Weights = slices.Delete(d.Weights, fault, fault+1)
	for i := range d.Tests {
		d.Tests[i] = slices.Delete(d.Tests[i], fault, fault+1)
	}
	return d
}

// If all tests cost 1, they are at least as many as the doublings from 1 to the number of faults.
func TestDoublings(t *testing.T) {
	for _, c := range solvableCases(20, 1000, 10, 12) {
		for i := range c.Costs {
			c.Costs[i] = 1
		}
		_, worst, e := tests.Worst(c)
		if 1<<worst < len(c.Weights) || e != api.OK {
			t.Fatalf("Worst(%v) = %d, %d", c, worst, e)
		}
	}
	// With the tests of the binary digits no more are needed.
	for n := 1; n <= 10; n++ {
		c := api.Case{Weights: slices.Repeat([]int{1}, n), Costs: []int{1, 1, 1, 1}, Tests: make([][]int, 4)}
		for digit := range 4 {
			for fault := range n {
				c.Tests[digit] = append(c.Tests[digit], fault>>digit&1)
			}
		}
		_, worst, e := tests.Worst(c)
		if 1<<worst < n || worst > 0 && 1<<(worst-1) >= n || e != api.OK {
			t.Errorf("%d faults: %d, %d", n, worst, e)
		}
	}
}
