package tests_test

import (
	"math"
	"math/rand"
	"slices"
	"testing"

	"ticking/api"
	"ticking/tests"
)

// P7.2: checking.

// isPlan follows the document's definition of a plan.
func isPlan(c api.Case, plan []api.Node) bool {
	if len(plan) > 1000 {
		return false
	}
	for i, n := range plan {
		isLeaf := n.Test == -1 && n.Fault >= 0 && n.Fault < len(c.Weights) && n.Zero == 0 && n.One == 0
		isFork := n.Test >= 0 && n.Test < len(c.Tests) && n.Fault == 0 && n.Zero > i && n.Zero < len(plan) && n.One > i && n.One < len(plan)
		if !isLeaf && !isFork {
			return false
		}
	}
	for i := 1; i < len(plan); i++ {
		times := 0
		for _, n := range plan {
			if n.Test >= 0 && n.Zero == i {
				times++
			}
			if n.Test >= 0 && n.One == i {
				times++
			}
		}
		if times != 1 {
			return false
		}
	}
	return true
}

// waysOf follows the document: the tests on the ways of all faults; false if the plan is not correct.
func waysOf(c api.Case, plan []api.Node) ([][]int, bool) {
	if len(plan) == 0 || !isPlan(c, plan) {
		return nil, false
	}
	var ways [][]int
	for fault := range c.Weights {
		var way []int
		n := plan[0]
		for n.Test != -1 {
			way = append(way, n.Test)
			n = plan[[]int{n.Zero, n.One}[c.Tests[n.Test][fault]]]
		}
		if n.Fault != fault {
			return nil, false
		}
		ways = append(ways, way)
	}
	return ways, true
}

// measure follows the document: the mean and the worst of a plan; false if it is not correct.
func measure(c api.Case, plan []api.Node) (int, int, bool) {
	ways, ok := waysOf(c, plan)
	mean, worst := 0, 0
	for fault, way := range ways {
		cost := 0
		for _, test := range way {
			cost += c.Costs[test]
		}
		mean += c.Weights[fault] * cost
		worst = max(worst, cost)
	}
	return mean, worst, ok
}

// checkAs tests that Check and Find return what the definitions say.
func checkAs(t *testing.T, c api.Case, plan []api.Node) bool {
	t.Helper()
	mean, worst, ok := measure(c, plan)
	ways, _ := waysOf(c, plan)
	want := api.OK
	if !ok {
		want = api.ErrAnswer
	}
	if m, w, e := tests.Check(c, plan); m != mean || w != worst || e != want {
		t.Fatalf("Check(%v, %v) = %d, %d, %d, not %d, %d, %d", c, plan, m, w, e, mean, worst, want)
	}
	for fault := range c.Weights {
		var way []int
		if ok {
			way = ways[fault]
		}
		if list, e := tests.Find(c, plan, fault); !slices.Equal(list, way) || e != want {
			t.Fatalf("Find(%v, %v, %d) = %v, %d, not %v, %d", c, plan, fault, list, e, way, want)
		}
	}
	return ok
}

// allPlans lists all plans of at most this many tests on a way, each in one order of its nodes.
func allPlans(faults, count, depth int) [][]api.Node {
	var list [][]api.Node
	for fault := range faults {
		list = append(list, []api.Node{leaf(fault)})
	}
	if depth == 0 {
		return list
	}
	parts := allPlans(faults, count, depth-1)
	for test := range count {
		for _, zero := range parts {
			for _, one := range parts {
				list = append(list, joined(test, zero, one))
			}
		}
	}
	return list
}

// joined returns the plan that begins with the test and goes on with one of two plans.
func joined(test int, zero, one []api.Node) []api.Node {
	plan := []api.Node{fork(test, 1, 1+len(zero))}
	for _, part := range [][]api.Node{zero, one} {
		start := len(plan)
		for _, n := range part {
			if n.Test >= 0 {
				n.Zero += start
				n.One += start
			}
			plan = append(plan, n)
		}
	}
	return plan
}

// somePlan makes a random correct plan for the faults that are left: some of its tests tell nothing, and leaves to which nothing leads stand for any fault.
func somePlan(x *rand.Rand, c api.Case, left []int) []api.Node {
	if len(left) == 0 {
		return []api.Node{leaf(x.Intn(len(c.Weights)))}
	}
	if len(left) == 1 && (len(c.Tests) == 0 || x.Intn(3) > 0) {
		return []api.Node{leaf(left[0])}
	}
	test := x.Intn(len(c.Tests))
	var parts [2][]int
	for _, fault := range left {
		result := c.Tests[test][fault]
		parts[result] = append(parts[result], fault)
	}
	return joined(test, somePlan(x, c, parts[0]), somePlan(x, c, parts[1]))
}

// shuffled returns the same plan with its nodes in another order.
func shuffled(x *rand.Rand, plan []api.Node) []api.Node {
	var order []int
	for next := []int{0}; len(next) > 0; {
		k := x.Intn(len(next))
		at := next[k]
		next = slices.Delete(next, k, k+1)
		order = append(order, at)
		if plan[at].Test >= 0 {
			next = append(next, plan[at].Zero, plan[at].One)
		}
	}
	var moved []api.Node
	for _, at := range order {
		n := plan[at]
		if n.Test >= 0 {
			n.Zero = slices.Index(order, n.Zero)
			n.One = slices.Index(order, n.One)
		}
		moved = append(moved, n)
	}
	return moved
}

// All plans with few tests, for all small cases, most of them not correct.
func TestCheckSmall(t *testing.T) {
	right := 0
	for i, c := range smallCases() {
		for k, plan := range allPlans(len(c.Weights), len(c.Tests), 2) {
			if (i+k)%3 == 0 && checkAs(t, c, plan) {
				right++
			}
		}
	}
	if right < 1000 {
		t.Errorf("only %d plans are correct", right)
	}
}

func TestCheckSome(t *testing.T) {
	x := rand.New(rand.NewSource(1))
	for _, c := range solvableCases(2, 1500, 10, 12) {
		plan := somePlan(x, c, upTo(len(c.Weights)))
		if len(plan) > 1000 {
			continue
		}
		if !checkAs(t, c, plan) || !checkAs(t, c, shuffled(x, plan)) {
			t.Fatalf("%v is not correct for %v", plan, c)
		}
	}
}

// changed returns plans that are near to a plan, most of them wrong.
func changed(x *rand.Rand, c api.Case, plan []api.Node) [][]api.Node {
	at, other := x.Intn(len(plan)), x.Intn(len(plan))
	var list [][]api.Node
	edit := func(change func(n *api.Node)) {
		p := slices.Clone(plan)
		change(&p[at])
		list = append(list, p)
	}
	edit(func(n *api.Node) { n.Test = x.Intn(len(c.Tests)+2) - 1 })
	edit(func(n *api.Node) { n.Fault = x.Intn(len(c.Weights)+2) - 1 })
	edit(func(n *api.Node) { n.Zero = x.Intn(len(plan)+2) - 1 })
	edit(func(n *api.Node) { n.One = x.Intn(len(plan)+2) - 1 })
	edit(func(n *api.Node) { n.Zero, n.One = n.One, n.Zero })
	edit(func(n *api.Node) { n.One = n.Zero })
	edit(func(n *api.Node) { *n = leaf(x.Intn(len(c.Weights))) })
	swapped := slices.Clone(plan)
	swapped[at], swapped[other] = swapped[other], swapped[at]
	list = append(list, swapped, slices.Delete(slices.Clone(plan), at, at+1), plan[:at], plan[at:])
	return append(list, append(slices.Clone(plan), leaf(0)), append(slices.Clone(plan), plan...))
}

func TestCheckChanged(t *testing.T) {
	x := rand.New(rand.NewSource(3))
	right, wrong := 0, 0
	for _, c := range slices.Concat(solvableCases(4, 1500, 4, 4), solvableCases(5, 300, 10, 12)) {
		plan := somePlan(x, c, upTo(len(c.Weights)))
		for range 10 {
			for _, p := range changed(x, c, plan) {
				if checkAs(t, c, p) {
					right++
				} else {
					wrong++
				}
			}
		}
	}
	if right < 1000 || wrong < 1000 {
		t.Errorf("%d plans are correct, %d are wrong", right, wrong)
	}
}

func TestCheckNamed(t *testing.T) {
	for _, c := range []struct {
		plan []api.Node
		want api.Errno
	}{
		{[]api.Node{fork(0, 1, 2), fork(1, 3, 4), leaf(0), leaf(2), leaf(1)}, api.OK},
		{[]api.Node{fork(1, 2, 1), leaf(1), fork(0, 3, 4), leaf(2), leaf(0)}, api.OK},
		{nil, api.ErrAnswer},
		{[]api.Node{}, api.ErrAnswer},
		{[]api.Node{leaf(0)}, api.ErrAnswer},
		// A leaf to which no fault leads may stand for each fault, but for nothing else.
		{[]api.Node{fork(0, 1, 2), fork(1, 3, 4), fork(1, 5, 6), leaf(2), leaf(1), leaf(0), leaf(0)}, api.OK},
		{[]api.Node{fork(0, 1, 2), fork(1, 3, 4), fork(1, 5, 6), leaf(2), leaf(1), leaf(0), leaf(1)}, api.OK},
		{[]api.Node{fork(0, 1, 2), fork(1, 3, 4), fork(1, 5, 6), leaf(2), leaf(1), leaf(0), leaf(3)}, api.ErrAnswer},
		{[]api.Node{fork(0, 1, 2), fork(1, 3, 4), fork(1, 5, 6), leaf(2), leaf(1), leaf(0), leaf(-1)}, api.ErrAnswer},
		// The test of the first node once more.
		{[]api.Node{fork(0, 1, 2), fork(1, 3, 4), fork(0, 5, 6), leaf(2), leaf(1), leaf(2), leaf(0)}, api.OK},
		{[]api.Node{fork(0, 1, 2), fork(1, 3, 4), fork(0, 5, 6), leaf(2), leaf(1), leaf(0), leaf(2)}, api.ErrAnswer},
		// Two faults in one place, or none at all.
		{[]api.Node{fork(0, 1, 2), leaf(1), leaf(0)}, api.ErrAnswer},
		{[]api.Node{fork(0, 1, 2), fork(1, 3, 4), leaf(0), leaf(1), leaf(2)}, api.ErrAnswer},
		{[]api.Node{fork(0, 2, 1), fork(1, 3, 4), leaf(0), leaf(2), leaf(1)}, api.ErrAnswer},
		// Nodes that are reached from two others, twice from one, from none, from themselves, or from later ones.
		{[]api.Node{fork(0, 1, 2), fork(1, 3, 4), fork(1, 5, 3), leaf(2), leaf(1), leaf(0)}, api.ErrAnswer},
		{[]api.Node{fork(0, 1, 2), fork(1, 3, 4), fork(1, 5, 5), leaf(2), leaf(1), leaf(0)}, api.ErrAnswer},
		{[]api.Node{fork(0, 1, 2), fork(1, 3, 4), leaf(0), leaf(2), leaf(1), leaf(0)}, api.ErrAnswer},
		{[]api.Node{fork(0, 1, 2), fork(1, 3, 4), leaf(0), leaf(2), leaf(1), fork(0, 6, 7), leaf(0), leaf(0)}, api.ErrAnswer},
		{[]api.Node{fork(0, 1, 2), fork(1, 3, 4), fork(1, 2, 5), leaf(2), leaf(1), leaf(0)}, api.ErrAnswer},
		{[]api.Node{fork(0, 2, 1), leaf(0), fork(1, 3, 4), leaf(2), fork(0, 5, 1), leaf(1)}, api.ErrAnswer},
		{[]api.Node{fork(0, 4, 2), leaf(2), leaf(0), leaf(1), fork(1, 1, 3)}, api.ErrAnswer},
		{[]api.Node{fork(0, 1, 2), fork(1, 3, 4), fork(1, 5, 0), leaf(2), leaf(1), leaf(0)}, api.ErrAnswer},
		{[]api.Node{fork(0, 1, 2), fork(1, 3, 5), leaf(0), leaf(2), leaf(1)}, api.ErrAnswer},
		{[]api.Node{fork(0, 1, math.MaxInt), fork(1, 3, 4), leaf(0), leaf(2), leaf(1)}, api.ErrAnswer},
		{[]api.Node{fork(0, math.MinInt, 2), fork(1, 3, 4), leaf(0), leaf(2), leaf(1)}, api.ErrAnswer},
		// Tests that are not there.
		{[]api.Node{fork(0, 1, 2), fork(2, 3, 4), leaf(0), leaf(2), leaf(1)}, api.ErrAnswer},
		{[]api.Node{fork(0, 1, 2), fork(-2, 3, 4), leaf(0), leaf(2), leaf(1)}, api.ErrAnswer},
		{[]api.Node{fork(0, 1, 2), fork(-1, 3, 4), leaf(0), leaf(2), leaf(1)}, api.ErrAnswer},
		{[]api.Node{fork(math.MinInt, 1, 2), fork(1, 3, 4), leaf(0), leaf(2), leaf(1)}, api.ErrAnswer},
		{[]api.Node{fork(math.MaxInt, 1, 2), fork(1, 3, 4), leaf(0), leaf(2), leaf(1)}, api.ErrAnswer},
		// Numbers without a meaning that are not zero.
		{[]api.Node{{Test: 0, Fault: 1, Zero: 1, One: 2}, fork(1, 3, 4), leaf(0), leaf(2), leaf(1)}, api.ErrAnswer},
		{[]api.Node{fork(0, 1, 2), fork(1, 3, 4), {Test: -1, Zero: 3}, leaf(2), leaf(1)}, api.ErrAnswer},
		{[]api.Node{fork(0, 1, 2), fork(1, 3, 4), {Test: -1, One: -1}, leaf(2), leaf(1)}, api.ErrAnswer},
		{[]api.Node{fork(0, 1, 2), fork(1, 3, 4), {Test: -2}, leaf(2), leaf(1)}, api.ErrAnswer},
		{[]api.Node{fork(0, 1, 2), fork(1, 3, 4), {Test: 0}, leaf(2), leaf(1)}, api.ErrAnswer},
	} {
		if _, _, e := tests.Check(example(), c.plan); e != c.want {
			t.Errorf("Check(%v) = %d", c.plan, e)
		}
		checkAs(t, example(), c.plan)
	}
}

// A test on a way counts as often as it is there: here it is made once more for one fault.
func TestCheckNumbers(t *testing.T) {
	c := api.Case{Weights: []int{10, 100, 1000}, Tests: [][]int{{1, 0, 0}, {0, 1, 0}}, Costs: []int{3, 7}}
	plan := []api.Node{fork(0, 1, 2), fork(1, 3, 4), fork(0, 5, 6), leaf(2), leaf(1), leaf(2), leaf(0)}
	if mean, worst, e := tests.Check(c, plan); mean != 6*10+10*100+10*1000 || worst != 10 || e != api.OK {
		t.Errorf("Check = %d, %d, %d", mean, worst, e)
	}
	for fault, want := range [][]int{{0, 0}, {0, 1}, {0, 1}} {
		if list, e := tests.Find(c, plan, fault); !slices.Equal(list, want) || e != api.OK {
			t.Errorf("Find(%d) = %v, %d", fault, list, e)
		}
	}
}

// longPlan makes a correct plan for one fault that makes the same test again and again.
func longPlan(tests int) []api.Node {
	var plan []api.Node
	for k := range tests {
		plan = append(plan, fork(0, 2*k+2, 2*k+1), leaf(0))
	}
	return append(plan, leaf(0))
}

func TestCheckMostNodes(t *testing.T) {
	c := api.Case{Weights: []int{1000}, Tests: [][]int{{0}}, Costs: []int{100}}
	if mean, worst, e := tests.Check(c, longPlan(499)); mean != 499*100*1000 || worst != 499*100 || e != api.OK {
		t.Errorf("999 nodes: %d, %d, %d", mean, worst, e)
	}
	if list, e := tests.Find(c, longPlan(499), 0); len(list) != 499 || slices.Max(list) != 0 || e != api.OK {
		t.Errorf("999 nodes: %v, %d", list, e)
	}
	for _, more := range []int{500, 501, 100000} {
		if mean, worst, e := tests.Check(c, longPlan(more)); mean != 0 || worst != 0 || e != api.ErrAnswer {
			t.Errorf("%d nodes: %d, %d, %d", 2*more+1, mean, worst, e)
		}
	}
}

// No such fault comes before a plan that is not correct.
func TestFindErrors(t *testing.T) {
	right := []api.Node{fork(0, 1, 2), fork(1, 3, 4), leaf(0), leaf(2), leaf(1)}
	for _, plan := range [][]api.Node{right, right[:4], nil} {
		for _, fault := range []int{-1, 3, 10, math.MinInt, math.MaxInt} {
			if list, e := tests.Find(example(), plan, fault); len(list) != 0 || e != api.ErrArg {
				t.Errorf("Find(%v, %d) = %v, %d", plan, fault, list, e)
			}
		}
	}
	// The way of fault 0 leads to it, but those of the others do not.
	plan := []api.Node{fork(0, 1, 2), leaf(1), leaf(0)}
	for fault := range 3 {
		if list, e := tests.Find(example(), plan, fault); len(list) != 0 || e != api.ErrAnswer {
			t.Errorf("Find(%d) = %v, %d", fault, list, e)
		}
	}
}
