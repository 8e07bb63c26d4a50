package scores

import "slices"

// showsNoGraph reports whether k shows that the degrees have no graph.
func showsNoGraph(degrees []int, k int) bool {
	if k == wrongSum {
		return sum(degrees)%2 == 1
	}
	return 1 <= k && k <= len(degrees) && excess(degrees, k) > 0
}

// excess returns what the k greatest degrees have beyond all that they can get: from each other, and from the other ones.
func excess(degrees []int, k int) int {
	greatest := sortedBy(degrees, func(degree int) int { return -degree })
	total := sum(greatest[:k]) - k*(k-1)
	for _, degree := range greatest[k:] {
		total -= min(degree, k)
	}
	return total
}

// graphFor returns a graph for degrees that have one. If they do, there is also one in which a given position is joined to those with the greatest degrees; so each position in turn is joined to these among the later ones.
func graphFor(degrees []int) [][2]int {
	left := slices.Clone(degrees)
	var graph [][2]int
	for a := range left {
		later := sortedBy(span(a+1, len(left)-1), func(b int) int { return -left[b] })
		for _, b := range later[:left[a]] {
			graph = append(graph, [2]int{a, b})
			left[b]--
		}
	}
	return graph
}

func isGraph(degrees []int, graph [][2]int) bool {
	left := slices.Clone(degrees)
	seen := map[[2]int]bool{}
	for _, pair := range graph {
		a, b := pair[0], pair[1]
		if a < 0 || b <= a || b >= len(degrees) || seen[pair] {
			return false
		}
		seen[pair] = true
		left[a]--
		left[b]--
	}
	return allBetween(left, 0, 0)
}
