package tests

import (
	"cmp"
	"slices"

	"ticking/api"
)

// choice is the best first test for a set of faults, and the mean or the worst to which it leads.
type choice struct {
	test, total int
}

// least returns a correct plan with the smallest total, and this total. sum returns the total of a plan from the cost of its first test, the weight of its faults, and the totals of its two parts.
func least(c api.Case, sum func(cost, weight, zero, one int) int) ([]api.Node, int, api.Errno) {
	b, e := solvable(c)
	if e != api.OK {
		return nil, 0, e
	}
	known := map[set]choice{}
	var best func(faults set) choice
	best = func(faults set) choice {
		if found, ok := known[faults]; ok || faults.size() == 1 {
			return found
		}
		weight := b.weight(faults)
		var found choice
		for _, test := range b.useful(faults) {
			parts := b.split(faults, test)
			zero, one := best(parts[0]), best(parts[1])
			total := sum(b.Costs[test], weight, zero.total, one.total)
			// No total of two faults is 0, as no test is free.
			if found.total == 0 || total < found.total {
				found = choice{test, total}
			}
		}
		known[faults] = found
		return found
	}
	plan := b.plan(func(faults set) int { return best(faults).test })
	return plan, best(b.faults()).total, api.OK
}

// plan returns the plan that begins with the picked test for each set of faults that is not yet divided.
func (b bench) plan(pick func(faults set) int) []api.Node {
	var nodes []api.Node
	var add func(faults set) int
	add = func(faults set) int {
		at := len(nodes)
		if faults.size() == 1 {
			nodes = append(nodes, leaf(faults.least()))
			return at
		}
		test := pick(faults)
		nodes = append(nodes, api.Node{})
		parts := b.split(faults, test)
		zero := add(parts[0])
		one := add(parts[1])
		nodes[at] = api.Node{Test: test, Zero: zero, One: one}
		return at
	}
	add(b.faults())
	return nodes
}

// useful returns the tests that have both results among the faults.
func (b bench) useful(faults set) []int {
	var list []int
	for test := range b.Tests {
		if parts := b.split(faults, test); parts[0] != 0 && parts[1] != 0 {
			list = append(list, test)
		}
	}
	return list
}

// greediest returns the first one of the tests for which the weight of the lighter part, divided by the cost, is greatest.
func (b bench) greediest(faults set) int {
	best, most := -1, 0
	for _, test := range b.useful(faults) {
		parts := b.split(faults, test)
		lighter := min(b.weight(parts[0]), b.weight(parts[1]))
		// Quotients are compared by products, which are exact.
		if best < 0 || lighter*b.Costs[best] > most*b.Costs[test] {
			best, most = test, lighter
		}
	}
	return best
}

// cover returns the first one of the smallest sets of tests that tell all faults apart.
func (b bench) cover() []int {
	best := b.tests().members()
	for chosen := range b.tests() {
		if len(b.alike(chosen)) > 0 {
			continue
		}
		list := chosen.members()
		if cmp.Or(cmp.Compare(len(list), len(best)), slices.Compare(list, best)) < 0 {
			best = list
		}
	}
	return best
}
