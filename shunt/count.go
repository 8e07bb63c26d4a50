package shunt

import "ticking/api"

func isCounted(n int) bool { return 0 <= n && n <= api.MaxCounted }

// Count returns the number of orders of n items that one stack sorts.
func Count(n int) (int, api.Errno) {
	if !isCounted(n) {
		return 0, api.ErrArg
	}
	return counts()[n], api.OK
}

// counts rests on the form of these orders: after the first item come all smaller items, and then all greater ones, each part again of this form.
func counts() [api.MaxCounted + 1]int {
	var table [api.MaxCounted + 1]int
	table[0] = 1
	for n := 1; n <= api.MaxCounted; n++ {
		for smaller := range n {
			table[n] += table[smaller] * table[n-1-smaller]
		}
	}
	return table
}

// Sortable returns the order of n items that one stack sorts, and that has k such orders before it.
func Sortable(n, k int) ([]int, api.Errno) {
	if !isCounted(n) {
		return nil, api.ErrArg
	}
	table := counts()
	if k < 0 || k >= table[n] {
		return nil, api.ErrArg
	}
	order := make([]int, 0, n)
	var build func(n, lowest, k int)
	build = func(n, lowest, k int) {
		if n == 0 {
			return
		}
		smaller := 0
		for k >= table[smaller]*table[n-1-smaller] {
			k -= table[smaller] * table[n-1-smaller]
			smaller++
		}
		order = append(order, lowest+smaller)
		greater := n - 1 - smaller
		build(smaller, lowest, k/table[greater])
		build(greater, lowest+smaller+1, k%table[greater])
	}
	build(n, 1, k)
	return order, api.OK
}

// Rank returns how many orders of as many items, that one stack sorts, come before the order.
func Rank(order []int) (int, api.Errno) {
	if !isOrder(order) || !isCounted(len(order)) {
		return 0, api.ErrArg
	}
	if findBlock(order) != nil {
		return 0, api.ErrNone
	}
	table := counts()
	return rank(&table, order, 1), api.OK
}

// rank expects an order of the items from lowest on that one stack sorts.
func rank(table *[api.MaxCounted + 1]int, order []int, lowest int) int {
	if len(order) == 0 {
		return 0
	}
	rest := len(order) - 1
	smaller := order[0] - lowest
	sum := 0
	for i := range smaller {
		sum += table[i] * table[rest-i]
	}
	sum += rank(table, order[1:1+smaller], lowest) * table[rest-smaller]
	return sum + rank(table, order[1+smaller:], order[0]+1)
}
