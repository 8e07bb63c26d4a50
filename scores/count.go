package scores

import "slices"

// countTrees returns the number of codes in which each node occurs one time less than its degree.
func countTrees(degrees []int) int {
	n := len(degrees)
	if slices.Min(degrees) < 1 || sum(degrees) != 2*(n-1) {
		return 0
	}
	count := factorial(n - 2)
	for _, degree := range degrees {
		count /= factorial(degree - 1)
	}
	return count
}

func factorial(n int) int {
	product := 1
	for k := 2; k <= n; k++ {
		product *= k
	}
	return product
}

// countShapes counts the shapes of trees with a marked node, and takes away those of trees with a marked edge whose halves differ. For if nodes, or edges, count once where the shape does not tell them apart, each tree has one node more than edges of this sort.
func countShapes(n int) int {
	rooted := countRooted(n)
	count := rooted[n]
	for part := 1; 2*part < n; part++ {
		count -= rooted[part] * rooted[n-part]
	}
	if n%2 == 0 {
		half := rooted[n/2]
		count -= half * (half - 1) / 2
	}
	return count
}

// countRooted returns the numbers of shapes of trees with 0 to n nodes, one of which, the root, is marked. Without the root it falls apart into a wood of smaller trees with roots.
func countRooted(n int) []int {
	rooted := make([]int, n+1)
	woods := make([]int, n+1) // by the number of nodes: woods of trees that are counted already
	woods[0] = 1
	for size := 1; size <= n; size++ {
		rooted[size] = woods[size-1]
		woods = planted(woods, size, rooted[size])
	}
	return rooted
}

// planted returns the numbers of woods after any number of trees of this size, of which there are some kinds, may be added.
func planted(woods []int, size, kinds int) []int {
	more := make([]int, len(woods))
	for nodes := range more {
		for trees := 0; trees*size <= nodes; trees++ {
			more[nodes] += woods[nodes-trees*size] * choices(kinds, trees)
		}
	}
	return more
}

// choices returns the number of ways to choose some trees of some kinds, each kind any number of times.
func choices(kinds, trees int) int {
	ways := 1
	for i := range trees {
		ways = ways * (kinds + i) / (i + 1)
	}
	return ways
}
