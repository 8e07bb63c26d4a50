package tests_test

import (
	"fmt"
	"math"
	"math/rand"
	"reflect"
	"slices"
	"testing"

	"ticking/api"
	"ticking/tests"
)

func leaf(fault int) api.Node           { return api.Node{Test: -1, Fault: fault} }
func fork(test, zero, one int) api.Node { return api.Node{Test: test, Zero: zero, One: one} }

// copied returns a case that shares no list with c.
func copied(c api.Case) api.Case {
	d := api.Case{Weights: slices.Clone(c.Weights), Costs: slices.Clone(c.Costs), Tests: slices.Clone(c.Tests)}
	for i, results := range c.Tests {
		d.Tests[i] = slices.Clone(results)
	}
	return d
}

func numbers(x *rand.Rand, count, least, most int) []int {
	list := make([]int, count)
	for i := range list {
		list[i] = least + x.Intn(most-least+1)
	}
	return list
}

// someCase makes a random case: with small or great numbers, and tests that have the result 1 often or seldom.
func someCase(x *rand.Rand, faults, count int) api.Case {
	weight := []int{1, 3, 1000}[x.Intn(3)]
	cost := []int{1, 3, 100}[x.Intn(3)]
	c := api.Case{Weights: numbers(x, faults, 1, weight), Costs: numbers(x, count, 1, cost)}
	often := 1 + x.Intn(9)
	for range count {
		results := make([]int, faults)
		for i := range results {
			if x.Intn(10) < often {
				results[i] = 1
			}
		}
		c.Tests = append(c.Tests, results)
	}
	return c
}

func manyCases(seed int64, count, mostFaults, mostTests int) []api.Case {
	x := rand.New(rand.NewSource(seed))
	var list []api.Case
	for range count {
		faults := 1 + x.Intn(mostFaults)
		list = append(list, someCase(x, faults, x.Intn(mostTests+1)))
	}
	return list
}

// solvableCases makes random cases in which the tests tell all faults apart.
func solvableCases(seed int64, count, mostFaults, mostTests int) []api.Case {
	x := rand.New(rand.NewSource(seed))
	var list []api.Case
	for len(list) < count {
		faults := 1 + x.Intn(mostFaults)
		c := someCase(x, faults, x.Intn(mostTests+1))
		if len(likePairs(c)) == 0 {
			list = append(list, c)
		}
	}
	return list
}

// smallCases lists the cases with at most three faults and two tests, with a few weights and costs.
func smallCases() []api.Case {
	var list []api.Case
	for n := 1; n <= 3; n++ {
		for count := range 3 {
			for results := range 1 << (n * count) {
				for _, first := range []int{1, 4} {
					for _, cost := range []int{1, 3} {
						c := api.Case{Weights: []int{first, 1, 2}[:n], Costs: []int{2, cost}[:count]}
						for test := range count {
							row := make([]int, n)
							for fault := range row {
								row[fault] = results >> (test*n + fault) & 1
							}
							c.Tests = append(c.Tests, row)
						}
						list = append(list, copied(c))
					}
				}
			}
		}
	}
	return list
}

// resultsOf returns the results of one fault in the given tests.
func resultsOf(c api.Case, fault int, chosen []int) []int {
	var list []int
	for _, test := range chosen {
		list = append(list, c.Tests[test][fault])
	}
	return list
}

func upTo(n int) []int {
	var list []int
	for i := range n {
		list = append(list, i)
	}
	return list
}

// likePairs follows the document: which pairs of faults have the same results in all tests.
func likePairs(c api.Case) [][2]int {
	var pairs [][2]int
	for a := range c.Weights {
		for b := range c.Weights {
			if a < b && slices.Equal(resultsOf(c, a, upTo(len(c.Tests))), resultsOf(c, b, upTo(len(c.Tests)))) {
				pairs = append(pairs, [2]int{a, b})
			}
		}
	}
	return pairs
}

// example is the first example of the chapter.
func example() api.Case {
	return api.Case{Weights: []int{1, 1, 2}, Tests: [][]int{{1, 0, 0}, {0, 1, 0}}, Costs: []int{1, 1}}
}

func TestExamples(t *testing.T) {
	plan, mean, e := tests.Best(example())
	if _, _, ok := measure(example(), plan); mean != 7 || e != api.OK || !ok {
		t.Errorf("Best = %v, %d, %d", plan, mean, e)
	}
	plan, worst, e := tests.Worst(example())
	if _, _, ok := measure(example(), plan); worst != 2 || e != api.OK || !ok {
		t.Errorf("Worst = %v, %d, %d", plan, worst, e)
	}
	single := api.Case{Weights: []int{5}}
	if plan, mean, e := tests.Best(single); !slices.Equal(plan, []api.Node{leaf(0)}) || mean != 0 || e != api.OK {
		t.Errorf("Best of one fault = %v, %d, %d", plan, mean, e)
	}
	blind := api.Case{Weights: []int{1, 1}}
	if plan, mean, e := tests.Best(blind); len(plan) != 0 || mean != 0 || e != api.ErrNone {
		t.Errorf("Best without tests = %v, %d, %d", plan, mean, e)
	}
	if pairs, e := tests.Alike(blind); !slices.Equal(pairs, [][2]int{{0, 1}}) || e != api.OK {
		t.Errorf("Alike without tests = %v, %d", pairs, e)
	}
}

// wrongCases are no cases, each for one reason.
func wrongCases() []api.Case {
	list := []api.Case{
		{},
		{Weights: []int{}},
		{Tests: [][]int{{}}, Costs: []int{1}},
		{Weights: slices.Repeat([]int{1}, 11)},
		{Weights: slices.Repeat([]int{1}, 70)},
	}
	for _, k := range []int{0, -1, 1001, math.MinInt, math.MaxInt} {
		for at := range 3 {
			c := example()
			c.Weights[at] = k
			list = append(list, c)
		}
	}
	for _, k := range []int{0, -1, 101, math.MinInt, math.MaxInt} {
		for at := range 2 {
			c := example()
			c.Costs[at] = k
			list = append(list, c)
		}
	}
	for _, k := range []int{2, -1, math.MinInt, math.MaxInt} {
		for at := range 6 {
			c := example()
			c.Tests[at/3][at%3] = k
			list = append(list, c)
		}
	}
	for _, results := range [][]int{nil, {}, {1, 0}, {1, 0, 0, 0}, make([]int, 1000)} {
		for at := range 2 {
			c := example()
			c.Tests[at] = results
			list = append(list, c)
		}
	}
	for _, costs := range [][]int{nil, {}, {1}, {1, 1, 1}} {
		c := example()
		c.Costs = costs
		list = append(list, c)
	}
	for _, count := range []int{13, 64, 1000} {
		c := example()
		c.Tests = slices.Repeat(c.Tests[:1], count)
		c.Costs = slices.Repeat([]int{1}, count)
		list = append(list, c)
	}
	return list
}

// checkRefused tests that every function returns ErrArg, and nothing else, whatever the other arguments are.
func checkRefused(t *testing.T, c api.Case) {
	t.Helper()
	if plan, n, e := tests.Best(c); len(plan) != 0 || n != 0 || e != api.ErrArg {
		t.Errorf("Best(%v) = %v, %d, %d", c, plan, n, e)
	}
	if plan, n, e := tests.Worst(c); len(plan) != 0 || n != 0 || e != api.ErrArg {
		t.Errorf("Worst(%v) = %v, %d, %d", c, plan, n, e)
	}
	if plan, e := tests.Greedy(c); len(plan) != 0 || e != api.ErrArg {
		t.Errorf("Greedy(%v) = %v, %d", c, plan, e)
	}
	if list, e := tests.Cover(c); len(list) != 0 || e != api.ErrArg {
		t.Errorf("Cover(%v) = %v, %d", c, list, e)
	}
	if pairs, e := tests.Alike(c); len(pairs) != 0 || e != api.ErrArg {
		t.Errorf("Alike(%v) = %v, %d", c, pairs, e)
	}
	for _, plan := range [][]api.Node{nil, {leaf(0)}, {fork(0, 1, 2), fork(1, 3, 4), leaf(0), leaf(2), leaf(1)}} {
		if mean, worst, e := tests.Check(c, plan); mean != 0 || worst != 0 || e != api.ErrArg {
			t.Errorf("Check(%v, %v) = %d, %d, %d", c, plan, mean, worst, e)
		}
		for _, fault := range []int{-1, 0, 1} {
			if list, e := tests.Find(c, plan, fault); len(list) != 0 || e != api.ErrArg {
				t.Errorf("Find(%v, %v, %d) = %v, %d", c, plan, fault, list, e)
			}
		}
	}
	for _, pairs := range [][][2]int{nil, {{0, 0}}, {{-1, 5}}} {
		if list, e := tests.Left(c, pairs); len(list) != 0 || e != api.ErrArg {
			t.Errorf("Left(%v, %v) = %v, %d", c, pairs, list, e)
		}
	}
}

func TestWrongCases(t *testing.T) {
	for _, c := range wrongCases() {
		checkRefused(t, c)
	}
}

// As many faults and tests as are allowed, with the greatest and the least numbers.
func TestGreatestCase(t *testing.T) {
	for _, k := range [][2]int{{1, 1}, {1000, 100}} {
		c := api.Case{Weights: slices.Repeat([]int{k[0]}, 10), Costs: slices.Repeat([]int{k[1]}, 12)}
		for test := range 12 {
			results := make([]int, 10)
			results[test%9] = 1
			c.Tests = append(c.Tests, results)
		}
		// Each test tells one fault from the others, so that the ways have 1, 2, ... 9 and 9 tests.
		if plan, mean, e := tests.Best(c); len(plan) != 19 || mean != 54*k[0]*k[1] || e != api.OK {
			t.Errorf("Best = %v, %d, %d", plan, mean, e)
		}
		if plan, worst, e := tests.Worst(c); len(plan) != 19 || worst != 9*k[1] || e != api.OK {
			t.Errorf("Worst = %v, %d, %d", plan, worst, e)
		}
		if list, e := tests.Cover(c); !slices.Equal(list, upTo(9)) || e != api.OK {
			t.Errorf("Cover = %v, %d", list, e)
		}
		if pairs, e := tests.Alike(c); len(pairs) != 0 || e != api.OK {
			t.Errorf("Alike = %v, %d", pairs, e)
		}
		for i := range c.Tests {
			clear(c.Tests[i])
		}
		if pairs, e := tests.Alike(c); len(pairs) != 45 || e != api.OK {
			t.Errorf("Alike = %v, %d", pairs, e)
		}
	}
}

// results calls every function.
func results(c api.Case, plan []api.Node, pairs [][2]int) []any {
	var list []any
	for _, search := range []func(api.Case) ([]api.Node, int, api.Errno){tests.Best, tests.Worst} {
		p, n, e := search(c)
		list = append(list, p, n, e)
	}
	p, e := tests.Greedy(c)
	list = append(list, p, e)
	mean, worst, e := tests.Check(c, plan)
	list = append(list, mean, worst, e)
	for fault := range c.Weights {
		found, e := tests.Find(c, plan, fault)
		list = append(list, found, e)
	}
	cover, e := tests.Cover(c)
	list = append(list, cover, e)
	alike, e := tests.Alike(c)
	list = append(list, alike, e)
	left, e := tests.Left(c, pairs)
	return append(list, left, e)
}

// spoil changes all lists among the results, and the memory behind their ends.
func spoil(list []any) {
	for _, result := range list {
		switch r := result.(type) {
		case []api.Node:
			r = r[:cap(r)]
			for i := range r {
				r[i] = api.Node{Test: -7, Fault: -7}
			}
		case []int:
			r = r[:cap(r)]
			for i := range r {
				r[i] = -7
			}
		case [][2]int:
			r = r[:cap(r)]
			for i := range r {
				r[i] = [2]int{-7, -7}
			}
		}
	}
}

// Calls change no argument, keep none of the lists, share none of them, and return the same each time.
func TestArgumentsStay(t *testing.T) {
	x := rand.New(rand.NewSource(71))
	for _, c := range slices.Concat(manyCases(72, 60, 10, 12), solvableCases(73, 60, 10, 12)) {
		plan, _, _ := tests.Best(c)
		var pairs [][2]int
		for range x.Intn(3) {
			if len(c.Tests) > 0 {
				pairs = append(pairs, [2]int{x.Intn(len(c.Tests)), x.Intn(2)})
			}
		}
		c0, plan0, pairs0 := copied(c), slices.Clone(plan), slices.Clone(pairs)
		first := results(c, plan, pairs)
		text := fmt.Sprint(first)
		for i := range first {
			spoil(first[i : i+1])
			if i+1 < len(first) && fmt.Sprint(first[i+1:]) != fmt.Sprint(results(c, plan, pairs)[i+1:]) {
				t.Fatalf("%v: results share memory", c)
			}
		}
		if fmt.Sprint(c) != fmt.Sprint(c0) || !slices.Equal(plan, plan0) || !slices.Equal(pairs, pairs0) {
			t.Fatalf("%v, %v, %v have become %v, %v, %v", c0, plan0, pairs0, c, plan, pairs)
		}
		again := results(c0, plan0, pairs0)
		if fmt.Sprint(again) != text || !reflect.DeepEqual(again, results(c, plan, pairs)) {
			t.Fatalf("%v: %v, then %v", c, text, again)
		}
	}
}
