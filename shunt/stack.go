package shunt

import "ticking/api"

// Stack returns a plan that sorts the order with one stack, or a block.
func Stack(order []int) (string, []int, api.Errno) {
	if !isOrder(order) {
		return "", nil, api.ErrArg
	}
	if block := findBlock(order); block != nil {
		return "", block, api.OK
	}
	return eagerPlan(order), nil, api.OK
}

// eagerPlan lets each item leave as soon as it can: no later item can help it, and below it nothing can leave before it.
func eagerPlan(order []int) string {
	var plan []byte
	var waiting pile[int]
	next := 1
	for _, item := range order {
		plan = append(plan, 'i')
		waiting.push(item)
		for top, ok := waiting.top(); ok && top == next; top, ok = waiting.top() {
			plan = append(plan, 'o')
			waiting.pop()
			next++
		}
	}
	return string(plan)
}

func findBlock(order []int) []int {
	for a := range order {
		for b := a + 1; b < len(order); b++ {
			for c := b + 1; c < len(order); c++ {
				if order[c] < order[a] && order[a] < order[b] {
					return []int{a, b, c}
				}
			}
		}
	}
	return nil
}

// CheckStack returns OK if the plan sorts the order and there is no block, or if there is no plan and the block shows why.
func CheckStack(order []int, plan string, block []int) api.Errno {
	if !isOrder(order) {
		return api.ErrArg
	}
	if len(block) == 0 && planSorts(order, plan) || plan == "" && isBlock(order, block) {
		return api.OK
	}
	return api.ErrAnswer
}

func planSorts(order []int, plan string) bool {
	if len(plan) != 2*len(order) {
		return false
	}
	var waiting pile[int]
	arrived, left := 0, 0
	for i := range len(plan) {
		switch plan[i] {
		case 'i':
			if arrived == len(order) {
				return false
			}
			waiting.push(order[arrived])
			arrived++
		case 'o':
			item, ok := waiting.pop()
			if !ok || item != left+1 {
				return false
			}
			left++
		default:
			return false
		}
	}
	return left == len(order)
}

func isBlock(order, block []int) bool {
	if !arePositions(block, 3, len(order)) {
		return false
	}
	a, b, c := order[block[0]], order[block[1]], order[block[2]]
	return c < a && a < b
}

// Pass returns the items as they leave one stack on which no item ever lies above a smaller one.
func Pass(order []int) ([]int, api.Errno) {
	if !isOrder(order) {
		return nil, api.ErrArg
	}
	var gone []int
	var waiting pile[int]
	for _, item := range order {
		for top, ok := waiting.top(); ok && top < item; top, ok = waiting.top() {
			gone = append(gone, top)
			waiting.pop()
		}
		waiting.push(item)
	}
	for item, ok := waiting.pop(); ok; item, ok = waiting.pop() {
		gone = append(gone, item)
	}
	return gone, api.OK
}
