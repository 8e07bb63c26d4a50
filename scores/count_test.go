package scores_test

import (
	"math"
	"math/rand"
	"slices"
	"testing"

	"ticking/api"
	"ticking/scores"
)

// P9.5: the trees with all small degrees, counted one by one.
func TestCountTrees(t *testing.T) {
	for n := 2; n <= 6; n++ {
		count := map[string]int{}
		for _, code := range allLists(n-2, 0, n-1) {
			tree, _ := scores.Tree(n, code)
			count[key(degreesIn(n, tree))]++
		}
		all := 0
		for _, degrees := range allLists(n, 0, min(n+1, 6)) {
			want := count[key(degrees)]
			if trees, e := scores.Trees(degrees); trees != want || e != api.OK {
				t.Fatalf("Trees(%v) = %d, %d, not %d", degrees, trees, e, want)
			}
			all += want
		}
		if want := int(math.Pow(float64(n), float64(n-2))); all != want {
			t.Errorf("%d trees with %d nodes, not %d", all, n, want)
		}
	}
}

// chosen returns the number of ways to choose k of n things, by their sums.
func chosen(n, k int) int {
	row := make([]int, k+1)
	row[0] = 1
	for range n {
		for i := k; i > 0; i-- {
			row[i] += row[i-1]
		}
	}
	return row[k]
}

// P9.5: the trees with the degrees of random trees, by choosing the places of each node in the code.
func TestCountManyTrees(t *testing.T) {
	x := rand.New(rand.NewSource(9))
	for range 3000 {
		n := 2 + x.Intn(19)
		tree, _ := scores.Tree(n, someCode(x, n))
		degrees := degreesIn(n, tree)
		want, places := 1, n-2
		for _, degree := range degrees {
			want *= chosen(places, degree-1)
			places -= degree - 1
		}
		before := slices.Clone(degrees)
		if trees, e := scores.Trees(degrees); trees != want || e != api.OK || !slices.Equal(degrees, before) {
			t.Fatalf("Trees(%v) = %d, %d, not %d", degrees, trees, e, want)
		}
		degrees[x.Intn(n)]++
		if trees, e := scores.Trees(degrees); trees != 0 || e != api.OK {
			t.Fatalf("Trees(%v) = %d, %d", degrees, trees, e)
		}
	}
}

func TestCountTreesNamed(t *testing.T) {
	line := append(slices.Repeat([]int{2}, 18), 1, 1)
	for _, c := range []struct {
		degrees []int
		trees   int
	}{
		{[]int{1, 1}, 1},
		{[]int{0, 2}, 0},
		{[]int{0, 0}, 0},
		{[]int{2, 2}, 0},
		{[]int{30, 30}, 0},
		{[]int{1, 2, 1}, 1},
		{[]int{2, 2, 0}, 0},
		{[]int{3, 1, 0}, 0},
		{[]int{1, 1, 1, 1}, 0},
		{[]int{1, 2, 2, 1}, 2},
		{line, 6402373705728000}, // 18!
		{append(slices.Repeat([]int{1}, 19), 19), 1},
		{append(slices.Repeat([]int{1}, 18), 10, 10), 48620},
		{append(slices.Repeat([]int{1}, 19), 30), 0},
		{append(slices.Repeat([]int{1}, 19), 18), 0},
		{append(slices.Repeat([]int{0}, 19), 30), 0},
		{append([]int{0, 20}, slices.Repeat([]int{1}, 18)...), 0},
		{slices.Repeat([]int{30}, 20), 0},
		{make([]int, 20), 0},
	} {
		if trees, e := scores.Trees(c.degrees); trees != c.trees || e != api.OK {
			t.Errorf("Trees(%v) = %d, %d, not %d", c.degrees, trees, e, c.trees)
		}
	}
}

func TestTreesRefuses(t *testing.T) {
	lists := [][]int{nil, {}, {0}, {1}, slices.Repeat([]int{2}, 21), slices.Repeat([]int{1}, 30), make([]int, 100000)}
	for _, wrong := range []int{-1, 31, math.MinInt, math.MaxInt} {
		lists = append(lists, []int{1, wrong}, []int{wrong, 1}, []int{1, 2, wrong, 1}, append(slices.Repeat([]int{1}, 19), wrong))
	}
	for _, degrees := range lists {
		if trees, e := scores.Trees(degrees); trees != 0 || e != api.ErrArg {
			t.Errorf("Trees(%v) = %d, %d", degrees, trees, e)
		}
	}
}

// P9.4 and P9.5: all shapes of up to 14 nodes are found by adding a node to those with one node less, and have different strings.
func TestCountShapes(t *testing.T) {
	trees := map[string][][2]int{"(())": {{0, 1}}}
	for n := 2; n <= 14; n++ {
		if count, e := scores.Shapes(n); count != len(trees) || e != api.OK {
			t.Fatalf("Shapes(%d) = %d, %d, not %d", n, count, e, len(trees))
		}
		more := map[string][][2]int{}
		for _, tree := range trees {
			for node := range n {
				grown := append(slices.Clone(tree), [2]int{node, n})
				shape, _ := scores.Shape(n+1, grown)
				more[shape] = grown
			}
		}
		trees = more
	}
}

// P9.5: the numbers of all sizes.
func TestShapesNamed(t *testing.T) {
	known := []int{1, 1, 2, 3, 6, 11, 23, 47, 106, 235, 551, 1301, 3159, 7741, 19320, 48629, 123867, 317955, 823065}
	for i, want := range known {
		if count, e := scores.Shapes(i + 2); count != want || e != api.OK {
			t.Errorf("Shapes(%d) = %d, %d, not %d", i+2, count, e, want)
		}
	}
}

func TestShapesRefuses(t *testing.T) {
	for _, n := range []int{math.MinInt, -1, 0, 1, 21, 22, 1000, math.MaxInt} {
		if count, e := scores.Shapes(n); count != 0 || e != api.ErrArg {
			t.Errorf("Shapes(%d) = %d, %d", n, count, e)
		}
	}
}
