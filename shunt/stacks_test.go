package shunt_test

import (
	"math"
	"math/rand"
	"slices"
	"testing"

	"ticking/api"
	"ticking/shunt"
)

// canLeave tries all ways in which the items on two stacks may leave.
func canLeave(order, sides []int, left, right []int, arrived, next int) bool {
	if next > len(order) {
		return true
	}
	for i, stack := range [][]int{left, right} {
		if top := len(stack) - 1; top >= 0 && stack[top] == next {
			rest := [][]int{left, right}
			rest[i] = stack[:top]
			if canLeave(order, sides, rest[0], rest[1], arrived, next+1) {
				return true
			}
		}
	}
	if arrived == len(order) {
		return false
	}
	stacks := [][]int{left, right}
	stacks[sides[arrived]] = append(slices.Clone(stacks[sides[arrived]]), order[arrived])
	return canLeave(order, sides, stacks[0], stacks[1], arrived+1, next)
}

func sidesAreRight(order, sides []int) bool {
	if len(sides) != len(order) {
		return false
	}
	for _, side := range sides {
		if side != 0 && side != 1 {
			return false
		}
	}
	return canLeave(order, sides, nil, nil, 0, 1)
}

func conflict(order []int, a, b int) bool {
	a, b = min(a, b), max(a, b)
	for c := b + 1; c < len(order); c++ {
		if order[c] < order[a] && order[a] < order[b] && a < b {
			return true
		}
	}
	return false
}

func circleIsRight(order, block []int) bool {
	if len(block) < 3 || len(block)%2 == 0 {
		return false
	}
	for i, at := range block {
		if at < 0 || at >= len(order) || slices.Contains(block[:i], at) {
			return false
		}
	}
	for i, at := range block {
		if !conflict(order, at, block[(i+1)%len(block)]) {
			return false
		}
	}
	return true
}

func TestStacksExample(t *testing.T) {
	order := []int{2, 3, 1}
	sides, block, err := shunt.Stacks(order)
	if !sidesAreRight(order, sides) || len(block) > 0 || err != api.OK {
		t.Errorf("Stacks = %v, %v, %d", sides, block, err)
	}
	if err := shunt.CheckStacks(order, []int{0, 1, 1}, nil); err != api.OK {
		t.Errorf("CheckStacks: %d", err)
	}
	if sides, block, err := shunt.Stacks(nil); len(sides) > 0 || len(block) > 0 || err != api.OK {
		t.Errorf("Stacks of nothing = %v, %v, %d", sides, block, err)
	}
}

func TestStacksFindsSidesOrBlockForAllSmallOrders(t *testing.T) {
	for n := range 7 {
		for order := range orders(n) {
			possible := false
			for sides := range lists(n, 0, 1) {
				if sidesAreRight(order, sides) {
					possible = true
					break
				}
			}
			sides, block, err := shunt.Stacks(order)
			right := possible && sidesAreRight(order, sides) && len(block) == 0 || !possible && len(sides) == 0 && circleIsRight(order, block)
			if !right || err != api.OK {
				t.Fatalf("Stacks(%v) = %v, %v, %d", order, sides, block, err)
			}
			if err := shunt.CheckStacks(order, sides, block); err != api.OK {
				t.Fatalf("CheckStacks(%v, %v, %v): %d", order, sides, block, err)
			}
		}
	}
}

func TestStacksOfLongOrders(t *testing.T) {
	r := rand.New(rand.NewSource(26))
	longest, sorted := 0, 0
	for i := range 3000 {
		n := 7 + r.Intn(54)
		order := nearlySorted(r, n, 2+i%4)
		if i%10 == 0 {
			order = someOrder(r, n)
		}
		sides, block, err := shunt.Stacks(order)
		right := sidesAreRight(order, sides) && len(block) == 0 || len(sides) == 0 && circleIsRight(order, block)
		if !right || err != api.OK {
			t.Fatalf("Stacks(%v) = %v, %v, %d", order, sides, block, err)
		}
		if err := shunt.CheckStacks(order, sides, block); err != api.OK {
			t.Fatalf("CheckStacks(%v, %v, %v): %d", order, sides, block, err)
		}
		longest = max(longest, len(block))
		if len(sides) > 0 {
			sorted++
		}
	}
	if longest < 5 || sorted < 100 {
		t.Errorf("the orders are too simple: the longest block has %d positions, and %d are sorted", longest, sorted)
	}
}

func TestStacksFindsCirclesOfFive(t *testing.T) {
	found := 0
	for order := range orders(8) {
		five := false
		for _, block := range [][]int{{0, 1, 2, 3, 4}, {0, 2, 1, 4, 3}, {0, 2, 1, 3, 4}, {0, 1, 3, 2, 4}, {0, 1, 3, 4, 2}} {
			five = five || circleIsRight(order, block)
		}
		if !five {
			continue
		}
		found++
		if sides, block, err := shunt.Stacks(order); len(sides) > 0 || !circleIsRight(order, block) || err != api.OK {
			t.Fatalf("Stacks(%v) = %v, %v, %d", order, sides, block, err)
		}
	}
	if found == 0 {
		t.Error("no order has such a circle")
	}
}

func TestCheckStacksAgreesWithTheDefinition(t *testing.T) {
	all := slices.Collect(lists(5, -1, 4))
	for n := range 5 {
		for order := range orders(n) {
			check := func(sides, block []int) {
				right := sidesAreRight(order, sides) && len(block) == 0 || len(sides) == 0 && n >= 1 && circleIsRight(order, block)
				if err := shunt.CheckStacks(order, sides, block); err != want(right) {
					t.Fatalf("CheckStacks(%v, %v, %v): %d", order, sides, block, err)
				}
			}
			for _, list := range all {
				check(list, nil)
				check(nil, list)
				check(list, []int{0, 1, 2})
				check([]int{0, 1, 1, 0}, list)
			}
		}
	}
	if err := shunt.CheckStacks([]int{2, 1}, make([]int, 100000), nil); err != api.ErrAnswer {
		t.Errorf("CheckStacks of many sides: %d", err)
	}
	if err := shunt.CheckStacks([]int{2, 3, 4, 1}, nil, make([]int, 100001)); err != api.ErrAnswer {
		t.Errorf("CheckStacks of a long block: %d", err)
	}
	if err := shunt.CheckStacks([]int{2, 3, 4, 1}, nil, []int{math.MaxInt, 0, 1}); err != api.ErrAnswer {
		t.Errorf("CheckStacks of a far block: %d", err)
	}
}

func TestCheckStacksTakesEveryCircle(t *testing.T) {
	order := []int{2, 5, 3, 4, 6, 1}
	taken := 0
	for block := range lists(5, 0, 5) {
		right := circleIsRight(order, block)
		if err := shunt.CheckStacks(order, nil, block); err != want(right) {
			t.Fatalf("CheckStacks with %v: %d", block, err)
		}
		if right && len(block) == 5 {
			taken++
		}
	}
	if taken == 0 {
		t.Error("no circle of five was tried")
	}
}

func TestConflicts(t *testing.T) {
	for n := range 7 {
		for order := range orders(n) {
			checkConflicts(t, order)
		}
	}
	r := rand.New(rand.NewSource(27))
	for range 200 {
		checkConflicts(t, someOrder(r, r.Intn(61)))
	}
}

func checkConflicts(t *testing.T, order []int) {
	t.Helper()
	var pairs [][2]int
	for a := range order {
		for b := a + 1; b < len(order); b++ {
			if conflict(order, a, b) {
				pairs = append(pairs, [2]int{a, b})
			}
		}
	}
	if got, err := shunt.Conflicts(order); !slices.Equal(got, pairs) || err != api.OK {
		t.Fatalf("Conflicts(%v) = %v, %d", order, got, err)
	}
}

func TestWhatOneStackSortsTwoSort(t *testing.T) {
	for n := range 8 {
		for order := range orders(n) {
			if _, block, _ := shunt.Stack(order); len(block) > 0 {
				continue
			}
			if sides, block, err := shunt.Stacks(order); len(sides) != n || len(block) > 0 || err != api.OK {
				t.Fatalf("Stacks(%v) = %v, %v, %d", order, sides, block, err)
			}
		}
	}
}
