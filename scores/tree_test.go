package scores_test

import (
	"math"
	"math/rand"
	"slices"
	"strings"
	"testing"

	"ticking/api"
	"ticking/scores"
)

// neighborsIn lists for each of n nodes its neighbors.
func neighborsIn(n int, tree [][2]int) [][]int {
	list := make([][]int, n)
	for _, edge := range tree {
		list[edge[0]] = append(list[edge[0]], edge[1])
		list[edge[1]] = append(list[edge[1]], edge[0])
	}
	return list
}

// isTree follows the document.
func isTree(n int, tree [][2]int) bool {
	if n < 2 || n > 20 || len(tree) != n-1 {
		return false
	}
	group := make([]int, n)
	for node := range group {
		group[node] = node
	}
	for _, edge := range tree {
		a, b := edge[0], edge[1]
		if a < 0 || b < 0 || a >= n || b >= n || a == b {
			return false
		}
		from, to := group[a], group[b]
		for node := range group {
			if group[node] == from {
				group[node] = to
			}
		}
	}
	return slices.Max(group) == slices.Min(group)
}

// codeOf follows the document.
func codeOf(n int, tree [][2]int) []int {
	edges := slices.Clone(tree)
	var code []int
	for range n - 2 {
		for leaf := range n {
			count, neighbor := 0, 0
			for _, edge := range edges {
				if edge[0] == leaf || edge[1] == leaf {
					count++
					neighbor = edge[0] + edge[1] - leaf
				}
			}
			if count == 1 {
				edges = slices.DeleteFunc(edges, func(edge [2]int) bool { return edge[0] == leaf || edge[1] == leaf })
				code = append(code, neighbor)
				break
			}
		}
	}
	return code
}

// stringOf follows the document: the string of a node, seen from another one, or from nowhere.
func stringOf(neighbors [][]int, node, from int) string {
	var parts []string
	for _, next := range neighbors[node] {
		if next != from {
			parts = append(parts, stringOf(neighbors, next, node))
		}
	}
	slices.Sort(parts)
	return "(" + strings.Join(parts, "") + ")"
}

// centersOf follows the document.
func centersOf(neighbors [][]int) []int {
	var left []int
	for node := range neighbors {
		left = append(left, node)
	}
	for len(left) > 2 {
		var inner []int
		for _, node := range left {
			count := 0
			for _, next := range neighbors[node] {
				if slices.Contains(left, next) {
					count++
				}
			}
			if count != 1 {
				inner = append(inner, node)
			}
		}
		left = inner
	}
	return left
}

// shapeOf follows the document.
func shapeOf(n int, tree [][2]int) string {
	neighbors := neighborsIn(n, tree)
	shape := ""
	for _, center := range centersOf(neighbors) {
		if s := stringOf(neighbors, center, -1); shape == "" || s < shape {
			shape = s
		}
	}
	return shape
}

// shuffled returns the same tree in another way: its edges in another order, and some of them turned around.
func shuffled(x *rand.Rand, tree [][2]int) [][2]int {
	other := slices.Clone(tree)
	x.Shuffle(len(other), func(i, j int) { other[i], other[j] = other[j], other[i] })
	for i, edge := range other {
		if x.Intn(2) == 0 {
			other[i] = [2]int{edge[1], edge[0]}
		}
	}
	return other
}

// renamed returns a tree of the same shape.
func renamed(x *rand.Rand, n int, tree [][2]int) [][2]int {
	names := x.Perm(n)
	other := shuffled(x, tree)
	for i, edge := range other {
		other[i] = [2]int{names[edge[0]], names[edge[1]]}
	}
	return other
}

func compareEdges(a, b [2]int) int { return slices.Compare(a[:], b[:]) }

// checkCode tests Tree, Code and Shape of a code, and returns the tree.
func checkCode(t *testing.T, x *rand.Rand, n int, code []int) [][2]int {
	t.Helper()
	before := slices.Clone(code)
	tree, e := scores.Tree(n, code)
	if e != api.OK || !isTree(n, tree) || !slices.Equal(codeOf(n, tree), code) {
		t.Fatalf("Tree(%d, %v) = %v, %d", n, code, tree, e)
	}
	if !slices.IsSortedFunc(tree, compareEdges) || slices.ContainsFunc(tree, func(edge [2]int) bool { return edge[0] >= edge[1] }) {
		t.Fatalf("Tree(%d, %v) = %v: wrong order", n, code, tree)
	}
	for node, degree := range degreesIn(n, tree) {
		count := 0
		for _, other := range code {
			if other == node {
				count++
			}
		}
		if count != degree-1 {
			t.Fatalf("Tree(%d, %v) = %v: node %d", n, code, tree, node)
		}
	}
	for _, same := range [][][2]int{tree, shuffled(x, tree)} {
		given := slices.Clone(same)
		back, e := scores.Code(n, same)
		shape, f := scores.Shape(n, same)
		if e != api.OK || f != api.OK || !slices.Equal(back, code) || shape != shapeOf(n, tree) {
			t.Fatalf("%d, %v: Code = %v, %d; Shape = %s, %d", n, same, back, e, shape, f)
		}
		if !slices.Equal(same, given) {
			t.Fatalf("%v was changed to %v", given, same)
		}
	}
	if !slices.Equal(code, before) {
		t.Fatalf("Tree changed %v to %v", before, code)
	}
	return tree
}

func TestTreeExample(t *testing.T) {
	path := [][2]int{{0, 1}, {1, 2}, {2, 3}}
	if code, e := scores.Code(4, path); !slices.Equal(code, []int{1, 2}) || e != api.OK {
		t.Errorf("Code = %v, %d", code, e)
	}
	if tree, e := scores.Tree(4, []int{1, 2}); !slices.Equal(tree, path) || e != api.OK {
		t.Errorf("Tree = %v, %d", tree, e)
	}
	if shape, e := scores.Shape(4, path); shape != "((())())" || e != api.OK {
		t.Errorf("Shape = %s, %d", shape, e)
	}
}

// P9.4 and P9.6: all codes of a few nodes, each of which has a tree of its own.
func TestAllCodes(t *testing.T) {
	x := rand.New(rand.NewSource(5))
	for n := 2; n <= 6; n++ {
		seen := map[string]bool{}
		for _, code := range allLists(n-2, 0, n-1) {
			var flat []int
			for _, edge := range checkCode(t, x, n, code) {
				flat = append(flat, edge[0], edge[1])
			}
			seen[key(flat)] = true
		}
		if want := int(math.Pow(float64(n), float64(n-2))); len(seen) != want {
			t.Errorf("%d trees with %d nodes, not %d", len(seen), n, want)
		}
	}
}

// P9.4: all lists of edges on a few nodes, trees or not.
func TestAllEdges(t *testing.T) {
	x := rand.New(rand.NewSource(6))
	for n := 2; n <= 4; n++ {
		trees := 0
		for _, flat := range allLists(2*(n-1), 0, n-1) {
			var edges [][2]int
			for pair := range slices.Chunk(flat, 2) {
				edges = append(edges, [2]int{pair[0], pair[1]})
			}
			if !isTree(n, edges) {
				checkNoTree(t, n, edges)
				continue
			}
			trees++
			code, e := scores.Code(n, edges)
			if e != api.OK || !slices.Equal(code, codeOf(n, edges)) {
				t.Fatalf("Code(%d, %v) = %v, %d", n, edges, code, e)
			}
			checkCode(t, x, n, code)
		}
		// Each tree is there with all orders of its edges and their ends.
		if want := []int{2, 3 * 2 * 4, 16 * 6 * 8}[n-2]; trees != want {
			t.Errorf("%d lists of trees with %d nodes, not %d", trees, n, want)
		}
	}
}

// someCode makes a random code: of all nodes, of few, or of nodes in a row.
func someCode(x *rand.Rand, n int) []int {
	code := make([]int, n-2)
	kind, few := x.Intn(3), 1+x.Intn(n)
	for i := range code {
		code[i] = x.Intn(n)
		if kind == 1 {
			code[i] = x.Intn(few)
		} else if kind == 2 && x.Intn(6) > 0 {
			code[i] = (few + i) % n
		}
	}
	return code
}

// P9.4: random trees, up to the limits.
func TestManyCodes(t *testing.T) {
	x := rand.New(rand.NewSource(7))
	for range 4000 {
		n := 2 + x.Intn(19)
		tree := checkCode(t, x, n, someCode(x, n))
		other := renamed(x, n, tree)
		a, e := scores.Shape(n, tree)
		b, f := scores.Shape(n, other)
		if a != b || e != api.OK || f != api.OK {
			t.Fatalf("Shape(%v) = %s, %d; Shape(%v) = %s, %d", tree, a, e, other, b, f)
		}
	}
}

// fit reports whether the nodes from this one on can be renamed so that one tree has the edges of the other.
func fit(a, b [][]int, names []int) bool {
	node := len(names)
	if node == len(a) {
		return true
	}
	for name := range b {
		right := !slices.Contains(names, name) && len(a[node]) == len(b[name])
		for old, other := range names {
			right = right && slices.Contains(a[node], old) == slices.Contains(b[name], other)
		}
		if right && fit(a, b, append(slices.Clone(names), name)) {
			return true
		}
	}
	return false
}

// P9.4: two trees have the same string exactly if their nodes can be renamed.
func TestSameShape(t *testing.T) {
	for n := 2; n <= 5; n++ {
		var trees [][][2]int
		for _, code := range allLists(n-2, 0, n-1) {
			tree, _ := scores.Tree(n, code)
			trees = append(trees, tree)
		}
		for _, a := range trees {
			for _, b := range trees {
				checkSame(t, n, a, b)
			}
		}
	}
	x := rand.New(rand.NewSource(8))
	for range 30000 {
		n := 6 + x.Intn(4)
		a, _ := scores.Tree(n, someCode(x, n))
		b, _ := scores.Tree(n, someCode(x, n))
		checkSame(t, n, a, b)
	}
}

func checkSame(t *testing.T, n int, a, b [][2]int) {
	t.Helper()
	first, _ := scores.Shape(n, a)
	second, _ := scores.Shape(n, b)
	if same := fit(neighborsIn(n, a), neighborsIn(n, b), nil); same != (first == second) {
		t.Fatalf("Shape(%v) = %s, Shape(%v) = %s; the same shape: %v", a, first, b, second, same)
	}
}

// path and star are the trees with the longest and the shortest ways.
func path(n int) [][2]int {
	var tree [][2]int
	for node := 1; node < n; node++ {
		tree = append(tree, [2]int{node - 1, node})
	}
	return tree
}

func star(n, center int) [][2]int {
	var tree [][2]int
	for node := range n {
		if node != center {
			tree = append(tree, [2]int{node, center})
		}
	}
	return tree
}

func TestTreesNamed(t *testing.T) {
	for _, c := range []struct {
		n     int
		tree  [][2]int
		shape string
	}{
		{2, path(2), "(())"},
		{2, [][2]int{{1, 0}}, "(())"},
		{3, path(3), "(()())"},
		{5, path(5), "((())(()))"},
		{6, path(6), "(((()))(()))"},
		{4, star(4, 2), "(()()())"},
		{20, star(20, 19), "(" + strings.Repeat("()", 19) + ")"},
		{20, path(20), strings.Repeat("(", 11) + strings.Repeat(")", 10) + strings.Repeat("(", 9) + strings.Repeat(")", 10)},
		// Two centers, seen from which the strings differ: with three leaves behind one, and one behind the other.
		{6, [][2]int{{5, 4}, {5, 0}, {5, 1}, {5, 2}, {4, 3}}, "((()()())())"},
	} {
		if shape, e := scores.Shape(c.n, c.tree); shape != c.shape || shapeOf(c.n, c.tree) != c.shape || e != api.OK {
			t.Errorf("Shape(%d, %v) = %s, %d, not %s", c.n, c.tree, shape, e, c.shape)
		}
	}
	if code, e := scores.Code(2, [][2]int{{1, 0}}); len(code) != 0 || e != api.OK {
		t.Errorf("Code of two nodes = %v, %d", code, e)
	}
	for _, code := range [][]int{nil, {}} {
		if tree, e := scores.Tree(2, code); !slices.Equal(tree, [][2]int{{0, 1}}) || e != api.OK {
			t.Errorf("Tree of two nodes = %v, %d", tree, e)
		}
	}
	for center := range 20 {
		if code, e := scores.Code(20, star(20, center)); !slices.Equal(code, slices.Repeat([]int{center}, 18)) || e != api.OK {
			t.Errorf("Code of a star = %v, %d", code, e)
		}
	}
}

// checkNoTree tests that each function returns ErrArg, and nothing else.
func checkNoTree(t *testing.T, n int, edges [][2]int) {
	t.Helper()
	if code, e := scores.Code(n, edges); len(code) != 0 || e != api.ErrArg {
		t.Fatalf("Code(%d, %v) = %v, %d", n, edges, code, e)
	}
	if shape, e := scores.Shape(n, edges); shape != "" || e != api.ErrArg {
		t.Fatalf("Shape(%d, %v) = %s, %d", n, edges, shape, e)
	}
}

func TestNoTrees(t *testing.T) {
	for _, n := range []int{math.MinInt, -1, 0, 1, 21, 1000, math.MaxInt} {
		checkNoTree(t, n, nil)
		checkNoTree(t, n, [][2]int{{0, 1}})
		if n > 1 && n < 2000 {
			checkNoTree(t, n, path(n))
		}
	}
	for n := 2; n <= 20; n++ {
		checkNoTree(t, n, nil)
		checkNoTree(t, n, path(n-1))
		checkNoTree(t, n, path(n+1))
		checkNoTree(t, n, append(path(n), [2]int{0, 1}))
		checkNoTree(t, n, make([][2]int, n-1))
		checkNoTree(t, n, make([][2]int, 100000))
		for _, wrong := range [][2]int{{0, 0}, {n - 1, n - 1}, {-1, 0}, {0, -1}, {0, n}, {n, 0}, {n - 1, n}, {math.MinInt, math.MaxInt}, {0, math.MaxInt}, {math.MinInt, 1}} {
			for at := range n - 1 {
				edges := path(n)
				edges[at] = wrong
				checkNoTree(t, n, edges)
			}
		}
	}
	// As many edges as a tree has, but a circle, or an edge twice, and a node apart.
	checkNoTree(t, 4, [][2]int{{0, 1}, {1, 2}, {2, 0}})
	checkNoTree(t, 4, [][2]int{{1, 2}, {2, 3}, {3, 1}})
	checkNoTree(t, 3, [][2]int{{0, 1}, {1, 0}})
	checkNoTree(t, 3, [][2]int{{1, 2}, {1, 2}})
}

func TestNoCodes(t *testing.T) {
	refuse := func(n int, code []int) {
		t.Helper()
		if tree, e := scores.Tree(n, code); len(tree) != 0 || e != api.ErrArg {
			t.Errorf("Tree(%d, %v) = %v, %d", n, code, tree, e)
		}
	}
	for _, n := range []int{math.MinInt, -1, 0, 1, 21, 1000, math.MaxInt} {
		for _, count := range []int{0, 1, 19, 998} {
			refuse(n, make([]int, count))
		}
	}
	for n := 2; n <= 20; n++ {
		if n > 2 {
			refuse(n, make([]int, n-3))
		}
		for _, count := range []int{n - 1, n, 100000} {
			refuse(n, make([]int, count))
		}
		for _, wrong := range []int{-1, n, math.MinInt, math.MaxInt} {
			for at := range n - 2 {
				code := make([]int, n-2)
				code[at] = wrong
				refuse(n, code)
			}
		}
	}
	refuse(3, nil)
	refuse(3, []int{0, 0})
}
