package shunt

import "ticking/api"

// Stacks returns sides that sort the order with two stacks, or a block.
func Stacks(order []int) ([]int, []int, api.Errno) {
	if !isOrder(order) {
		return nil, nil, api.ErrArg
	}
	colours, circle := colour(len(order), conflicts(order))
	if circle != nil {
		return nil, circle, api.OK
	}
	sides := make([]int, len(order))
	for i := range sides {
		sides[i] = colours[i]
	}
	return sides, nil, api.OK
}

// colour gives each position one of two colours, different ones where two are in conflict, or returns an odd circle of conflicts.
func colour(n int, pairs [][2]int) (map[int]int, []int) {
	rivals := map[int][]int{}
	for _, pair := range pairs {
		rivals[pair[0]] = append(rivals[pair[0]], pair[1])
		rivals[pair[1]] = append(rivals[pair[1]], pair[0])
	}
	colours := map[int]int{}
	var trail pile[int]
	var circle []int
	var visit func(at, wanted int) bool
	visit = func(at, wanted int) bool {
		if known, ok := colours[at]; ok {
			if known != wanted {
				circle = from(trail, at)
			}
			return known == wanted
		}
		colours[at] = wanted
		trail.push(at)
		for _, rival := range rivals[at] {
			if !visit(rival, 1-wanted) {
				return false
			}
		}
		trail.pop()
		return true
	}
	for i := range n {
		if _, ok := colours[i]; !ok && !visit(i, 0) {
			return nil, circle
		}
	}
	return colours, nil
}

// from returns the part of the trail that begins at the given position. It is there: of two positions in conflict, the search sees the one from the other while that is still on the trail.
func from(trail pile[int], at int) []int {
	var part []int
	for _, position := range trail {
		if position == at || len(part) > 0 {
			part = append(part, position)
		}
	}
	return part
}

// CheckStacks returns OK if the sides sort the order and there is no block, or if there are no sides and the block shows why.
func CheckStacks(order []int, sides, block []int) api.Errno {
	if !isOrder(order) {
		return api.ErrArg
	}
	if len(block) == 0 && sidesSort(order, sides) || len(sides) == 0 && isOddCircle(order, block) {
		return api.OK
	}
	return api.ErrAnswer
}

// sidesSort lets each item leave as soon as it can, as that never hinders another one.
func sidesSort(order, sides []int) bool {
	if !areBelow(sides, len(order), 2) {
		return false
	}
	var stacks [2]pile[int]
	next := 1
	leave := func(side int) bool {
		top, ok := stacks[side].top()
		if !ok || top != next {
			return false
		}
		stacks[side].pop()
		next++
		return true
	}
	for i, item := range order {
		stacks[sides[i]].push(item)
		for leave(0) || leave(1) {
		}
	}
	return next == len(order)+1
}

func isOddCircle(order, block []int) bool {
	n := len(block)
	if n < 3 || n%2 == 0 || !areBelow(block, n, len(order)) {
		return false
	}
	smallest := smallestAfter(order)
	seen := map[int]bool{}
	for i, at := range block {
		next := block[(i+1)%n]
		if seen[at] || !inConflict(order, smallest, min(at, next), max(at, next)) {
			return false
		}
		seen[at] = true
	}
	return true
}

// Conflicts returns all pairs of positions that are in conflict, in lexicographic order.
func Conflicts(order []int) ([][2]int, api.Errno) {
	if !isOrder(order) {
		return nil, api.ErrArg
	}
	return conflicts(order), api.OK
}

func conflicts(order []int) [][2]int {
	smallest := smallestAfter(order)
	var pairs [][2]int
	for a := range order {
		for b := a + 1; b < len(order); b++ {
			if inConflict(order, smallest, a, b) {
				pairs = append(pairs, [2]int{a, b})
			}
		}
	}
	return pairs
}

// inConflict tells whether the item at a has to wait for one after b, while the greater one at b would lie above it.
func inConflict(order, smallest []int, a, b int) bool {
	return order[a] < order[b] && smallest[b] < order[a]
}

// smallestAfter returns for each position the smallest item after it, and a number greater than all items for the last one.
func smallestAfter(order []int) []int {
	smallest := make([]int, len(order))
	least := len(order) + 1
	for i := len(order) - 1; i >= 0; i-- {
		smallest[i] = least
		least = min(least, order[i])
	}
	return smallest
}
