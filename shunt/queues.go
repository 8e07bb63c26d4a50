package shunt

import "ticking/api"

func isQueueCount(k int) bool { return 1 <= k && k <= api.MaxItems }

// Queues returns lanes that sort the order with k queues, or a block.
func Queues(order []int, k int) ([]int, []int, api.Errno) {
	if !isOrder(order) || !isQueueCount(k) {
		return nil, nil, api.ErrArg
	}
	depths, before := descents(order)
	for i, depth := range depths {
		if depth == k {
			return nil, trace(before, i, k+1), api.OK
		}
	}
	return depths, nil, api.OK
}

// descents returns for each position how many items come before it in the longest descent that ends there, and the position before it in such a descent, if there is one. Items of equal depth ascend, for a smaller one that comes later would be deeper: so the depths are lanes, and the fewest.
func descents(order []int) (depths, before []int) {
	depths = make([]int, len(order))
	before = make([]int, len(order))
	for i, item := range order {
		for j := range i {
			if order[j] > item && depths[j]+1 > depths[i] {
				depths[i] = depths[j] + 1
				before[i] = j
			}
		}
	}
	return depths, before
}

// trace returns the n positions of the descent that ends at the given one.
func trace(before []int, end, n int) []int {
	block := make([]int, n)
	for i := n - 1; i >= 0; i-- {
		block[i] = end
		end = before[end]
	}
	return block
}

// CheckQueues returns OK if the lanes sort the order and there is no block, or if there are no lanes and the block shows why.
func CheckQueues(order []int, k int, lanes, block []int) api.Errno {
	if !isOrder(order) || !isQueueCount(k) {
		return api.ErrArg
	}
	if len(block) == 0 && lanesSort(order, k, lanes) || len(lanes) == 0 && isDescent(order, k, block) {
		return api.OK
	}
	return api.ErrAnswer
}

// lanesSort looks at the last item of each queue only: the items leave in ascending order exactly if each queue ascends.
func lanesSort(order []int, k int, lanes []int) bool {
	if !areBelow(lanes, len(order), k) {
		return false
	}
	last := make([]int, k)
	for i, item := range order {
		if item < last[lanes[i]] {
			return false
		}
		last[lanes[i]] = item
	}
	return true
}

func isDescent(order []int, k int, block []int) bool {
	if !arePositions(block, k+1, len(order)) {
		return false
	}
	for i := range k {
		if order[block[i]] < order[block[i+1]] {
			return false
		}
	}
	return true
}

// Least returns the least number of queues that sort the order.
func Least(order []int) (int, api.Errno) {
	if !isOrder(order) {
		return 0, api.ErrArg
	}
	depths, _ := descents(order)
	least := 1
	for _, depth := range depths {
		least = max(least, depth+1)
	}
	return least, api.OK
}
