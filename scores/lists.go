package scores

import (
	"cmp"
	"slices"
)

// wrongSum stands for a k where the sum alone shows that there is no graph, or no contest.
const wrongSum = -1

// firstProof returns the first number that shows of the list that there is nothing for it, or 0 if none does.
func firstProof(list []int, shows func([]int, int) bool) int {
	for k := wrongSum; k <= len(list); k++ {
		if shows(list, k) {
			return k
		}
	}
	return 0
}

// sortedBy returns the things in ascending order of their keys; those with the same key keep their order.
func sortedBy[T any, K cmp.Ordered](things []T, key func(T) K) []T {
	return slices.SortedStableFunc(slices.Values(things), func(a, b T) int {
		return cmp.Compare(key(a), key(b))
	})
}

// span lists the numbers from first to last.
func span(first, last int) []int {
	var list []int
	for x := first; x <= last; x++ {
		list = append(list, x)
	}
	return list
}

func sum(list []int) int {
	total := 0
	for _, x := range list {
		total += x
	}
	return total
}
