package shunt_test

import (
	"iter"
	"math"
	"math/rand"
	"slices"
	"testing"

	"ticking/api"
	"ticking/shunt"
)

// orders ranges over all orders of n items, in lexicographic order.
func orders(n int) iter.Seq[[]int] {
	return func(yield func([]int) bool) {
		var grow func(order []int) bool
		grow = func(order []int) bool {
			if len(order) == n {
				return yield(slices.Clone(order))
			}
			for item := 1; item <= n; item++ {
				if !slices.Contains(order, item) && !grow(append(slices.Clone(order), item)) {
					return false
				}
			}
			return true
		}
		grow(nil)
	}
}

// lists ranges over all lists of at most n numbers from low to high.
func lists(n, low, high int) iter.Seq[[]int] {
	return func(yield func([]int) bool) {
		var grow func(list []int) bool
		grow = func(list []int) bool {
			if !yield(slices.Clone(list)) {
				return false
			}
			for x := low; len(list) < n && x <= high; x++ {
				if !grow(append(slices.Clone(list), x)) {
					return false
				}
			}
			return true
		}
		grow(nil)
	}
}

func someOrder(r *rand.Rand, n int) []int {
	order := r.Perm(n)
	for i := range order {
		order[i]++
	}
	return order
}

// nearlySorted returns an order whose items lie at most a few places from where they belong.
func nearlySorted(r *rand.Rand, n, reach int) []int {
	order := ascending(n)
	for i := range order {
		j := min(n-1, i+r.Intn(reach))
		order[i], order[j] = order[j], order[i]
	}
	return order
}

func ascending(n int) []int {
	order := make([]int, n)
	for i := range order {
		order[i] = i + 1
	}
	return order
}

func descending(n int) []int {
	order := ascending(n)
	slices.Reverse(order)
	return order
}

// want is OK, or ErrAnswer where the answer is wrong.
func want(right bool) api.Errno {
	if right {
		return api.OK
	}
	return api.ErrAnswer
}

func TestArgumentsThatAreNoOrders(t *testing.T) {
	for _, order := range [][]int{
		{0}, {2}, {-1}, {1, 1}, {2, 2}, {1, 3}, {0, 1}, {1, 2, 4}, {3, 1, 1}, {math.MaxInt}, {math.MinInt, 1}, {1, -2},
		ascending(61), descending(61), make([]int, 60), make([]int, 1000000),
	} {
		plan, block, err := shunt.Stack(order)
		if plan != "" || len(block) > 0 || err != api.ErrArg {
			t.Errorf("Stack of %d items = %q, %v, %d", len(order), plan, block, err)
		}
		lanes, block, err := shunt.Queues(order, 2)
		if len(lanes) > 0 || len(block) > 0 || err != api.ErrArg {
			t.Errorf("Queues of %d items = %v, %v, %d", len(order), lanes, block, err)
		}
		sides, block, err := shunt.Stacks(order)
		if len(sides) > 0 || len(block) > 0 || err != api.ErrArg {
			t.Errorf("Stacks of %d items = %v, %v, %d", len(order), sides, block, err)
		}
		if err := shunt.CheckStack(order, "", nil); err != api.ErrArg {
			t.Errorf("CheckStack of %d items: %d", len(order), err)
		}
		if err := shunt.CheckQueues(order, 2, nil, nil); err != api.ErrArg {
			t.Errorf("CheckQueues of %d items: %d", len(order), err)
		}
		if err := shunt.CheckStacks(order, nil, nil); err != api.ErrArg {
			t.Errorf("CheckStacks of %d items: %d", len(order), err)
		}
		if n, err := shunt.Least(order); n != 0 || err != api.ErrArg {
			t.Errorf("Least of %d items = %d, %d", len(order), n, err)
		}
		if pairs, err := shunt.Conflicts(order); len(pairs) > 0 || err != api.ErrArg {
			t.Errorf("Conflicts of %d items = %v, %d", len(order), pairs, err)
		}
		if n, err := shunt.Rank(order); n != 0 || err != api.ErrArg {
			t.Errorf("Rank of %d items = %d, %d", len(order), n, err)
		}
		if gone, err := shunt.Pass(order); len(gone) > 0 || err != api.ErrArg {
			t.Errorf("Pass of %d items = %v, %d", len(order), gone, err)
		}
	}
}

func TestSixtyItemsAreAnOrder(t *testing.T) {
	order := ascending(60)
	if plan, block, err := shunt.Stack(order); len(plan) != 120 || len(block) > 0 || err != api.OK {
		t.Errorf("Stack = %q, %v, %d", plan, block, err)
	}
	if gone, err := shunt.Pass(descending(60)); !slices.Equal(gone, order) || err != api.OK {
		t.Errorf("Pass = %v, %d", gone, err)
	}
	if n, err := shunt.Least(descending(60)); n != 60 || err != api.OK {
		t.Errorf("Least = %d, %d", n, err)
	}
}

func TestArgumentsStayAndResultsAreNew(t *testing.T) {
	order := []int{2, 3, 5, 4, 1}
	kept := slices.Clone(order)
	first, _ := shunt.Pass(order)
	second, _ := shunt.Pass(order)
	first[0] = 99
	if slices.Equal(first, second) {
		t.Error("two results share memory")
	}
	ones, _, _ := shunt.Queues(order, 4)
	twos, _, _ := shunt.Queues(order, 4)
	ones[0] = 99
	if twos[0] == 99 {
		t.Error("two lanes share memory")
	}
	shunt.Stack(order)
	shunt.Stacks(order)
	shunt.Conflicts(order)
	shunt.Rank(order)
	if !slices.Equal(order, kept) {
		t.Errorf("the order became %v", order)
	}
}
