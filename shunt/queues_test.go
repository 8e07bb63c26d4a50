package shunt_test

import (
	"math"
	"math/rand"
	"slices"
	"testing"

	"ticking/api"
	"ticking/shunt"
)

// lanesAreRight lets the items leave as the document says: always the smallest one of the first items.
func lanesAreRight(order []int, k int, lanes []int) bool {
	if len(lanes) != len(order) {
		return false
	}
	queues := make([][]int, k)
	for i, item := range order {
		if lanes[i] < 0 || lanes[i] >= k {
			return false
		}
		queues[lanes[i]] = append(queues[lanes[i]], item)
	}
	for next := 1; next <= len(order); next++ {
		best, at := math.MaxInt, -1
		for i, queue := range queues {
			if len(queue) > 0 && queue[0] < best {
				best, at = queue[0], i
			}
		}
		if best != next {
			return false
		}
		queues[at] = queues[at][1:]
	}
	return true
}

func descentIsRight(order []int, k int, block []int) bool {
	if len(block) != k+1 {
		return false
	}
	for i, at := range block {
		if at < 0 || at >= len(order) || i > 0 && (block[i-1] >= at || order[block[i-1]] <= order[at]) {
			return false
		}
	}
	return true
}

// longestDescent tries all parts of an order.
func longestDescent(order []int) int {
	longest := 0
	for set := range 1 << len(order) {
		var part []int
		for i, item := range order {
			if set>>i&1 == 1 {
				part = append(part, -item)
			}
		}
		if slices.IsSorted(part) {
			longest = max(longest, len(part))
		}
	}
	return longest
}

func TestQueuesFindsLanesOrBlockForAllSmallOrders(t *testing.T) {
	for n := range 6 {
		for order := range orders(n) {
			for k := 1; k <= 5; k++ {
				possible := false
				for lanes := range lists(n, 0, k-1) {
					if lanesAreRight(order, k, lanes) {
						possible = true
						break
					}
				}
				lanes, block, err := shunt.Queues(order, k)
				right := possible && lanesAreRight(order, k, lanes) && len(block) == 0 || !possible && len(lanes) == 0 && descentIsRight(order, k, block)
				if !right || err != api.OK {
					t.Fatalf("Queues(%v, %d) = %v, %v, %d", order, k, lanes, block, err)
				}
				if err := shunt.CheckQueues(order, k, lanes, block); err != api.OK {
					t.Fatalf("CheckQueues(%v, %d, %v, %v): %d", order, k, lanes, block, err)
				}
			}
		}
	}
}

func TestQueuesOfLongOrders(t *testing.T) {
	r := rand.New(rand.NewSource(24))
	for range 300 {
		order := someOrder(r, 6+r.Intn(55))
		least, err := shunt.Least(order)
		if err != api.OK {
			t.Fatalf("Least(%v): %d", order, err)
		}
		for k := 1; k <= 60; k++ {
			lanes, block, err := shunt.Queues(order, k)
			right := k >= least && lanesAreRight(order, k, lanes) && len(block) == 0 || k < least && len(lanes) == 0 && descentIsRight(order, k, block)
			if !right || err != api.OK {
				t.Fatalf("Queues(%v, %d) = %v, %v, %d", order, k, lanes, block, err)
			}
			if err := shunt.CheckQueues(order, k, lanes, block); err != api.OK {
				t.Fatalf("CheckQueues(%v, %d, %v, %v): %d", order, k, lanes, block, err)
			}
		}
	}
}

func TestQueuesTakeFromOneToSixty(t *testing.T) {
	for _, k := range []int{math.MinInt, -1, 0, 61, math.MaxInt} {
		if lanes, block, err := shunt.Queues([]int{1, 2}, k); len(lanes) > 0 || len(block) > 0 || err != api.ErrArg {
			t.Errorf("Queues with %d = %v, %v, %d", k, lanes, block, err)
		}
		if err := shunt.CheckQueues([]int{1, 2}, k, []int{0, 0}, nil); err != api.ErrArg {
			t.Errorf("CheckQueues with %d: %d", k, err)
		}
		if err := shunt.CheckQueues(nil, k, nil, nil); err != api.ErrArg {
			t.Errorf("CheckQueues with %d of nothing: %d", k, err)
		}
	}
	for _, k := range []int{1, 60} {
		if lanes, block, err := shunt.Queues([]int{1, 2}, k); !lanesAreRight([]int{1, 2}, k, lanes) || len(block) > 0 || err != api.OK {
			t.Errorf("Queues with %d = %v, %v, %d", k, lanes, block, err)
		}
		if lanes, block, err := shunt.Queues(nil, k); len(lanes) > 0 || len(block) > 0 || err != api.OK {
			t.Errorf("Queues with %d of nothing = %v, %v, %d", k, lanes, block, err)
		}
	}
	if lanes, block, err := shunt.Queues(descending(60), 59); len(lanes) > 0 || len(block) != 60 || err != api.OK {
		t.Errorf("Queues of a descent = %v, %v, %d", lanes, block, err)
	}
	if lanes, block, err := shunt.Queues(descending(60), 60); len(lanes) != 60 || len(block) > 0 || err != api.OK {
		t.Errorf("Queues of a descent = %v, %v, %d", lanes, block, err)
	}
}

func TestCheckQueuesAgreesWithTheDefinition(t *testing.T) {
	all := slices.Collect(lists(5, -1, 4))
	for n := range 5 {
		for order := range orders(n) {
			for k := 1; k <= 3; k++ {
				check := func(lanes, block []int) {
					right := lanesAreRight(order, k, lanes) && len(block) == 0 || len(lanes) == 0 && n >= 1 && descentIsRight(order, k, block)
					if err := shunt.CheckQueues(order, k, lanes, block); err != want(right) {
						t.Fatalf("CheckQueues(%v, %d, %v, %v): %d", order, k, lanes, block, err)
					}
				}
				for _, list := range all {
					check(list, nil)
					check(nil, list)
					check(list, []int{0, 1})
					check([]int{0, 1, 0}, list)
				}
			}
		}
	}
	if err := shunt.CheckQueues([]int{2, 1}, 1, make([]int, 100000), nil); err != api.ErrAnswer {
		t.Errorf("CheckQueues of many lanes: %d", err)
	}
	if err := shunt.CheckQueues([]int{2, 1}, 2, []int{math.MinInt, math.MaxInt}, nil); err != api.ErrAnswer {
		t.Errorf("CheckQueues of far lanes: %d", err)
	}
}

func TestLeast(t *testing.T) {
	if n, err := shunt.Least([]int{3, 2, 1}); n != 3 || err != api.OK {
		t.Errorf("Least = %d, %d", n, err)
	}
	if n, err := shunt.Least(nil); n != 1 || err != api.OK {
		t.Errorf("Least of nothing = %d, %d", n, err)
	}
	for n := 1; n < 7; n++ {
		for order := range orders(n) {
			if got, err := shunt.Least(order); got != longestDescent(order) || err != api.OK {
				t.Fatalf("Least(%v) = %d, %d", order, got, err)
			}
		}
	}
	r := rand.New(rand.NewSource(25))
	for range 50 {
		order := someOrder(r, 12)
		if got, err := shunt.Least(order); got != longestDescent(order) || err != api.OK {
			t.Fatalf("Least(%v) = %d, %d", order, got, err)
		}
	}
}
