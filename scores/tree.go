package scores

import (
	"slices"
	"strings"

	"ticking/api"
)

// tree lists for each node its neighbors.
type tree [][]int

// isSize reports whether there are trees with n nodes.
func isSize(n int) bool { return 2 <= n && n <= api.MaxNodes }

// treeOf returns the tree with these edges, and whether there is one.
func treeOf(n int, edges [][2]int) (tree, bool) {
	if !isSize(n) || len(edges) != n-1 {
		return nil, false
	}
	t := make(tree, n)
	for _, edge := range edges {
		a, b := edge[0], edge[1]
		if a == b || !allBetween(edge[:], 0, n-1) {
			return nil, false
		}
		t[a] = append(t[a], b)
		t[b] = append(t[b], a)
	}
	return t, t.connected()
}

// connected reports whether there is a way between every two nodes.
func (t tree) connected() bool {
	found := []int{0}
	seen := make([]bool, len(t))
	seen[0] = true
	for at := 0; at < len(found); at++ {
		for _, node := range t[found[at]] {
			if !seen[node] {
				seen[node] = true
				found = append(found, node)
			}
		}
	}
	return len(found) == len(t)
}

func (t tree) clone() tree {
	other := make(tree, len(t))
	for node, neighbors := range t {
		other[node] = slices.Clone(neighbors)
	}
	return other
}

// isLeaf reports whether a node with these neighbors is a leaf: it has one neighbor left.
func isLeaf(neighbors []int) bool { return len(neighbors) == 1 }

// leaves lists the leaves, ascending.
func (t tree) leaves() []int {
	return slices.DeleteFunc(span(0, len(t)-1), func(node int) bool { return !isLeaf(t[node]) })
}

// pluck removes a leaf, and returns its neighbor.
func (t tree) pluck(leaf int) int {
	neighbor := t[leaf][0]
	t[leaf] = nil
	t[neighbor] = slices.DeleteFunc(t[neighbor], func(node int) bool { return node == leaf })
	return neighbor
}

func (t tree) code() []int {
	rest := t.clone()
	var code []int
	for range len(t) - 2 {
		leaf := slices.IndexFunc(rest, isLeaf)
		code = append(code, rest.pluck(leaf))
	}
	return code
}

func isCode(n int, code []int) bool {
	return isSize(n) && len(code) == n-2 && allBetween(code, 0, n-1)
}

// edgesFor returns the edges of the tree with the code, each beginning with its smaller node, in lexicographic order.
func edgesFor(n int, code []int) [][2]int {
	left := make([]int, n) // for each node: how many neighbors it still has
	for node := range left {
		left[node] = 1
	}
	for _, node := range code {
		left[node]++
	}
	// There are always two leaves, so that the greatest node is never the smallest leaf: it is one of the two that are left, and the neighbor of the other.
	var edges [][2]int
	for _, node := range append(slices.Clone(code), n-1) {
		leaf := slices.Index(left, 1)
		edges = append(edges, [2]int{min(leaf, node), max(leaf, node)})
		left[leaf]--
		left[node]--
	}
	return sortedBy(edges, func(edge [2]int) int { return edge[0]*n + edge[1] })
}

// centers returns the one or two nodes that remain if all leaves are removed again and again.
func (t tree) centers() []int {
	rest := t.clone()
	removed := make([]bool, len(t))
	for count := len(t); count > 2; {
		// As more than two nodes are left, no leaf is the neighbor of another.
		for _, leaf := range rest.leaves() {
			rest.pluck(leaf)
			removed[leaf] = true
			count--
		}
	}
	return slices.DeleteFunc(span(0, len(t)-1), func(node int) bool { return removed[node] })
}

// nowhere stands for the neighbor from which a center is seen.
const nowhere = -1

// view is a node seen from one of its neighbors, or from nowhere: the part of the tree behind it.
type view struct {
	node, from int
}

func (t tree) shape() string {
	texts := map[view]string{} // two centers have most parts in common
	var text func(v view) string
	text = func(v view) string {
		if known, ok := texts[v]; ok {
			return known
		}
		var parts []string
		for _, next := range t[v.node] {
			if next != v.from {
				parts = append(parts, text(view{next, v.node}))
			}
		}
		slices.Sort(parts)
		texts[v] = "(" + strings.Join(parts, "") + ")"
		return texts[v]
	}
	var shapes []string
	for _, center := range t.centers() {
		shapes = append(shapes, text(view{center, nowhere}))
	}
	return slices.Min(shapes)
}
