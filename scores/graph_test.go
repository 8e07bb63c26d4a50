package scores_test

import (
	"math"
	"math/rand"
	"slices"
	"testing"

	"ticking/api"
	"ticking/scores"
)

// allLists lists the lists of so many numbers from low to high.
func allLists(count, low, high int) [][]int {
	if count == 0 {
		return [][]int{{}}
	}
	var all [][]int
	for _, list := range allLists(count-1, low, high) {
		for k := low; k <= high; k++ {
			all = append(all, append(slices.Clone(list), k))
		}
	}
	return all
}

// allPairs lists the pairs a < b of n positions.
func allPairs(n int) [][2]int {
	var pairs [][2]int
	for b := range n {
		for a := range b {
			pairs = append(pairs, [2]int{a, b})
		}
	}
	return pairs
}

// allGraphs lists the graphs on n positions.
func allGraphs(n int) [][][2]int {
	pairs := allPairs(n)
	all := make([][][2]int, 1<<len(pairs))
	for set := range all {
		for i, pair := range pairs {
			if set>>i&1 == 1 {
				all[set] = append(all[set], pair)
			}
		}
	}
	return all
}

func total(list []int) int {
	t := 0
	for _, x := range list {
		t += x
	}
	return t
}

// degreesIn counts how often each position occurs.
func degreesIn(n int, graph [][2]int) []int {
	list := make([]int, n)
	for _, pair := range graph {
		list[pair[0]]++
		list[pair[1]]++
	}
	return list
}

// key turns a list into a key of a map.
func key(list []int) string {
	b := make([]byte, len(list))
	for i, x := range list {
		b[i] = byte(x)
	}
	return string(b)
}

// isGraph follows the document.
func isGraph(degrees []int, graph [][2]int) bool {
	pairs := allPairs(len(degrees))
	for i, pair := range graph {
		if !slices.Contains(pairs, pair) || slices.Contains(graph[:i], pair) {
			return false
		}
	}
	return slices.Equal(degreesIn(len(degrees), graph), degrees)
}

// excess follows the document.
func excess(degrees []int, k int) int {
	list := slices.Clone(degrees)
	slices.Sort(list)
	slices.Reverse(list)
	e := -k * (k - 1)
	for i, d := range list {
		if i < k {
			e += d
		} else if d < k {
			e -= d
		} else {
			e -= k
		}
	}
	return e
}

// graphShown follows the document: whether CheckGraph must return OK.
func graphShown(degrees []int, graph [][2]int, k int) bool {
	odd := total(degrees)%2 != 0
	switch {
	case k == 0:
		return isGraph(degrees, graph)
	case k == -1:
		return len(graph) == 0 && odd
	}
	return len(graph) == 0 && k >= 1 && k <= len(degrees) && excess(degrees, k) > 0
}

// checkGraphic tests what Graphic and CheckGraph say of the degrees.
func checkGraphic(t *testing.T, degrees []int, graphic bool) {
	t.Helper()
	before := slices.Clone(degrees)
	graph, k, e := scores.Graphic(degrees)
	if e != api.OK || !graphShown(degrees, graph, k) || graphic != (k == 0) || (total(degrees)%2 != 0) != (k == -1) {
		t.Fatalf("Graphic(%v) = %v, %d, %d; graphic: %v", degrees, graph, k, e, graphic)
	}
	if e := scores.CheckGraph(degrees, graph, k); e != api.OK {
		t.Fatalf("CheckGraph(%v, %v, %d) = %d", degrees, graph, k, e)
	}
	if !slices.Equal(degrees, before) {
		t.Fatalf("Graphic changed %v to %v", before, degrees)
	}
}

func wantCheckGraph(t *testing.T, degrees []int, graph [][2]int, k int) {
	t.Helper()
	want := api.ErrAnswer
	if graphShown(degrees, graph, k) {
		want = api.OK
	}
	if e := scores.CheckGraph(degrees, graph, k); e != want {
		t.Fatalf("CheckGraph(%v, %v, %d) = %d, not %d", degrees, graph, k, e, want)
	}
}

func TestGraphExample(t *testing.T) {
	graph, k, e := scores.Graphic([]int{2, 2, 2})
	slices.SortFunc(graph, func(a, b [2]int) int { return slices.Compare(a[:], b[:]) })
	if !slices.Equal(graph, [][2]int{{0, 1}, {0, 2}, {1, 2}}) || k != 0 || e != api.OK {
		t.Errorf("Graphic(2 2 2) = %v, %d, %d", graph, k, e)
	}
	if graph, k, e := scores.Graphic([]int{3, 1, 1}); len(graph) != 0 || k != -1 || e != api.OK {
		t.Errorf("Graphic(3 1 1) = %v, %d, %d", graph, k, e)
	}
	degrees := []int{3, 3, 1, 1}
	if graph, k, e := scores.Graphic(degrees); len(graph) != 0 || k < 1 || e != api.OK {
		t.Errorf("Graphic(3 3 1 1) = %v, %d, %d", graph, k, e)
	}
	if e := scores.CheckGraph(degrees, nil, 2); e != api.OK {
		t.Errorf("CheckGraph(3 3 1 1, 2) = %d", e)
	}
}

// P9.1 and P9.6: all small degrees, against all graphs.
func TestAllDegrees(t *testing.T) {
	for n := range 7 {
		graphic := map[string]bool{}
		for _, graph := range allGraphs(n) {
			graphic[key(degreesIn(n, graph))] = true
		}
		for _, degrees := range allLists(n, 0, min(n+1, 6)) {
			checkGraphic(t, degrees, graphic[key(degrees)])
			for k := -3; k <= n+3; k++ {
				wantCheckGraph(t, degrees, nil, k)
			}
		}
	}
}

// P9.1: all small degrees, with all graphs.
func TestAllGraphs(t *testing.T) {
	for n := range 5 {
		for _, degrees := range allLists(n, 0, n) {
			for _, graph := range allGraphs(n) {
				for k := -2; k <= n+1; k++ {
					wantCheckGraph(t, degrees, graph, k)
				}
			}
		}
	}
}

// P9.1: all small degrees, with all short lists of pairs, most of which are no graphs.
func TestAllPairs(t *testing.T) {
	for n := range 3 {
		for count := range 4 {
			for _, flat := range allLists(2*count, -1, n) {
				var graph [][2]int
				for pair := range slices.Chunk(flat, 2) {
					graph = append(graph, [2]int{pair[0], pair[1]})
				}
				for _, degrees := range allLists(n, 0, 4) {
					wantCheckGraph(t, degrees, graph, 0)
				}
			}
		}
	}
}

// someGraph makes a random graph on n positions, each pair with the same chance.
func someGraph(x *rand.Rand, n int) [][2]int {
	var graph [][2]int
	chance := x.Float64()
	for _, pair := range allPairs(n) {
		if x.Float64() < chance {
			graph = append(graph, pair)
		}
	}
	x.Shuffle(len(graph), func(i, j int) { graph[i], graph[j] = graph[j], graph[i] })
	return graph
}

// P9.1: degrees of random graphs, up to the limits, and what is near to them.
func TestManyDegrees(t *testing.T) {
	x := rand.New(rand.NewSource(1))
	for range 600 {
		n := 1 + x.Intn(30)
		graph := someGraph(x, n)
		degrees := degreesIn(n, graph)
		checkGraphic(t, degrees, true)
		wantCheckGraph(t, degrees, graph, 0)
		for k := -1; k <= n; k++ {
			wantCheckGraph(t, degrees, nil, k)
		}
		for range 3 {
			degrees[x.Intn(n)] = x.Intn(31)
			_, k, _ := scores.Graphic(degrees)
			checkGraphic(t, degrees, k == 0)
			wantCheckGraph(t, degrees, graph, 0)
		}
	}
}

func TestDegreesNamed(t *testing.T) {
	repeat := func(degree, count int) []int { return slices.Repeat([]int{degree}, count) }
	for _, c := range []struct {
		degrees []int
		graphic bool
	}{
		{nil, true},
		{[]int{0}, true},
		{[]int{1}, false},
		{[]int{2}, false},
		{[]int{30}, false},
		{[]int{1, 1}, true},
		{repeat(0, 30), true},
		{repeat(1, 29), false},
		{repeat(1, 30), true},
		{repeat(15, 30), true},
		{repeat(29, 30), true},
		{repeat(30, 30), false},
		{append(repeat(29, 29), 27), false},
		{append(repeat(28, 28), 28, 28), true},
		{append(repeat(1, 29), 29), true},
		{append(repeat(29, 15), repeat(15, 15)...), true},
		{append(repeat(29, 15), repeat(14, 15)...), false},
		{append(repeat(29, 16), repeat(15, 14)...), false},
	} {
		checkGraphic(t, c.degrees, c.graphic)
	}
}

// P9.1: CheckGraph takes no wrong graphs.
func TestCheckGraphRefuses(t *testing.T) {
	degrees := []int{2, 2, 2, 0}
	right := [][2]int{{1, 2}, {0, 2}, {0, 1}}
	if e := scores.CheckGraph(degrees, right, 0); e != api.OK {
		t.Fatalf("CheckGraph = %d", e)
	}
	for _, pair := range [][2]int{{0, 0}, {1, 0}, {2, 0}, {2, 1}, {0, 2}, {0, 3}, {0, 4}, {-1, 0}, {-1, 1}, {4, 5}, {math.MinInt, math.MaxInt}, {math.MaxInt, math.MinInt}, {0, math.MaxInt}, {math.MinInt, 0}} {
		for at := range right {
			wrong := slices.Clone(right)
			wrong[at] = pair
			wantCheckGraph(t, degrees, wrong, 0)
			if e := scores.CheckGraph(degrees, append(slices.Clone(right), pair), 0); e != api.ErrAnswer {
				t.Errorf("CheckGraph with one more pair %v = %d", pair, e)
			}
		}
	}
	if e := scores.CheckGraph([]int{4, 4, 4}, slices.Repeat([][2]int{{0, 1}, {0, 2}, {1, 2}}, 2), 0); e != api.ErrAnswer {
		t.Errorf("CheckGraph with each pair twice = %d", e)
	}
	if e := scores.CheckGraph(degrees, make([][2]int, 100000), 0); e != api.ErrAnswer {
		t.Errorf("CheckGraph with many pairs = %d", e)
	}
	for _, k := range []int{-1, -2, 1, 2, 3, 4, 5, 31, math.MinInt, math.MaxInt} {
		if e := scores.CheckGraph(degrees, nil, k); e != api.ErrAnswer {
			t.Errorf("CheckGraph(%d) = %d", k, e)
		}
		if e := scores.CheckGraph(degrees, right, k); e != api.ErrAnswer {
			t.Errorf("CheckGraph(%d) with a graph = %d", k, e)
		}
	}
	if e := scores.CheckGraph([]int{3, 3, 1, 1}, [][2]int{{0, 1}}, 2); e != api.ErrAnswer {
		t.Errorf("CheckGraph with a right k and pairs = %d", e)
	}
	if e := scores.CheckGraph([]int{1}, [][2]int{{0, 0}}, -1); e != api.ErrAnswer {
		t.Errorf("CheckGraph with an odd sum and pairs = %d", e)
	}
	if e := scores.CheckGraph([]int{1}, [][2]int{}, -1); e != api.OK {
		t.Errorf("CheckGraph with an odd sum = %d", e)
	}
}

// notNumbers are lists that are neither degrees nor scores.
func notNumbers() [][]int {
	lists := [][]int{make([]int, 31), make([]int, 100000)}
	for _, wrong := range []int{-1, 31, math.MinInt, math.MaxInt} {
		lists = append(lists, []int{wrong}, []int{wrong, 0, 1}, []int{0, 1, wrong}, append(make([]int, 29), wrong))
	}
	return lists
}

func TestGraphicRefuses(t *testing.T) {
	for _, degrees := range notNumbers() {
		if graph, k, e := scores.Graphic(degrees); len(graph) != 0 || k != 0 || e != api.ErrArg {
			t.Errorf("Graphic(%v) = %v, %d, %d", degrees, graph, k, e)
		}
		for _, k := range []int{-2, -1, 0, 1, len(degrees)} {
			if e := scores.CheckGraph(degrees, nil, k); e != api.ErrArg {
				t.Errorf("CheckGraph(%v, %d) = %d", degrees, k, e)
			}
			if e := scores.CheckGraph(degrees, [][2]int{{1, 0}}, k); e != api.ErrArg {
				t.Errorf("CheckGraph(%v, a wrong graph, %d) = %d", degrees, k, e)
			}
		}
	}
}
