package tests

import "ticking/api"

// maxPlan is how many nodes a plan may have.
const maxPlan = 1000

// leaf returns the node that says that it is this fault.
func leaf(fault int) api.Node { return api.Node{Test: -1, Fault: fault} }

func isLeaf(c api.Case, n api.Node) bool {
	return n == leaf(n.Fault) && below(n.Fault, len(c.Weights))
}

// follow returns for each fault the tests on its way, and whether the plan is correct.
func follow(c api.Case, plan []api.Node) ([][]int, bool) {
	if !isPlan(c, plan) {
		return nil, false
	}
	ways := make([][]int, len(c.Weights))
	for fault := range ways {
		at := 0
		for !isLeaf(c, plan[at]) {
			n := plan[at]
			ways[fault] = append(ways[fault], n.Test)
			at = n.Zero
			if c.Tests[n.Test][fault] == 1 {
				at = n.One
			}
		}
		if plan[at] != leaf(fault) {
			return nil, false
		}
	}
	return ways, true
}

// isPlan reports whether the nodes are a plan, correct or not.
func isPlan(c api.Case, plan []api.Node) bool {
	if len(plan) < 1 || len(plan) > maxPlan {
		return false
	}
	entrances := make([]int, len(plan))
	// No way leads back to the first node, which is where all begin.
	entrances[0] = 1
	for at, n := range plan {
		if isLeaf(c, n) {
			continue
		}
		if !isFork(c, n, at, len(plan)) {
			return false
		}
		entrances[n.Zero]++
		entrances[n.One]++
	}
	return allFrom(1, 1, entrances)
}

// isFork reports whether the node at this position makes a test, and leads on.
func isFork(c api.Case, n api.Node, at, count int) bool {
	for _, next := range [2]int{n.Zero, n.One} {
		if next <= at || next >= count {
			return false
		}
	}
	return below(n.Test, len(c.Tests)) && n.Fault == 0
}
