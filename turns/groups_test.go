package turns_test

import (
	"fmt"
	"math"
	"math/rand"
	"slices"
	"testing"

	"ticking/api"
	"ticking/turns"
)

// isGrouping follows the document.
func isGrouping(list []int) bool {
	for i, x := range list {
		if x < 0 || i == 0 && x > 0 || i > 0 && x > slices.Max(list[:i])+1 {
			return false
		}
	}
	return true
}

// groupings follows the document: G(n). The groupings of one thing less are extended in lexicographic order.
func groupings(n int) [][]int {
	if n == 0 {
		return [][]int{nil}
	}
	var all [][]int
	for _, shorter := range groupings(n - 1) {
		for x := range n {
			if list := append(slices.Clone(shorter), x); isGrouping(list) {
				all = append(all, list)
			}
		}
	}
	return all
}

// following follows the document: the lexicographically next grouping, or nil for the last one.
func following(list []int) []int {
	for i := len(list) - 1; i >= 0; i-- {
		next := make([]int, len(list))
		copy(next, list[:i])
		next[i] = list[i] + 1
		if isGrouping(next) {
			return next
		}
	}
	return nil
}

func groupingsOf(n int) (at, place) {
	return func(at int) ([]int, api.Errno) { return turns.Grouping(n, at) }, turns.GroupingAt
}

// P10.1, P10.2 and P10.3: all groupings of a few things.
func TestGroupings(t *testing.T) {
	for n := range 10 {
		sequence := groupings(n)
		if !slices.IsSortedFunc(sequence, slices.Compare[[]int]) {
			t.Fatalf("G(%d) is not sorted", n)
		}
		at, place := groupingsOf(n)
		checkSequence(t, fmt.Sprintf("G(%d)", n), sequence, at, place)
		if many, e := turns.Groupings(n); many != len(sequence) || e != api.OK {
			t.Fatalf("Groupings(%d) = %d, %d", n, many, e)
		}
	}
}

// P10.3: the numbers of all sizes.
func TestGroupingsNamed(t *testing.T) {
	known := []int{1, 1, 2, 5, 15, 52, 203, 877, 4140, 21147, 115975, 678570, 4213597, 27644437, 190899322, 1382958545, 10480142147, 82864869804, 682076806159, 5832742205057, 51724158235372}
	for n, want := range known {
		if many, e := turns.Groupings(n); many != want || e != api.OK {
			t.Errorf("Groupings(%d) = %d, %d, not %d", n, many, e, want)
		}
	}
}

// P10.1, P10.2 up to the limit: from one grouping to the next.
func TestLargeGroupings(t *testing.T) {
	x := rand.New(rand.NewSource(34))
	for n := 1; n <= 20; n++ {
		name := fmt.Sprintf("G(%d)", n)
		at, place := groupingsOf(n)
		length, _ := turns.Groupings(n)
		checkLarge(t, name, 0, make([]int, n), at, place)
		checkLarge(t, name, length-1, span(0, n-1), at, place)
		for _, p := range positions(x, length) {
			list, e := at(p)
			if !isGrouping(list) || len(list) != n || e != api.OK {
				t.Fatalf("%s at %d: %v, %d", name, p, list, e)
			}
			checkLarge(t, name, p, list, at, place)
			if p+1 < length {
				checkLarge(t, name, p+1, following(list), at, place)
			} else if following(list) != nil {
				t.Fatalf("%s: %v is not the last one", name, list)
			}
		}
		for _, wrong := range []int{-1, length, length + 1, -length, math.MinInt, math.MaxInt} {
			list, e := at(wrong)
			refuses(t, name, list, 0, e)
		}
	}
}

// P10.2 up to the limit: where the groupings with a common beginning start, each of which can be counted by G of fewer things.
func TestWhereGroupingsStart(t *testing.T) {
	for n := 2; n <= 20; n++ {
		fewer, _ := turns.Groupings(n - 1)
		list := make([]int, n)
		list[1] = 1
		at, place := groupingsOf(n)
		checkLarge(t, fmt.Sprintf("G(%d)", n), fewer, list, at, place)
	}
}

// P10.1, P10.3: the wrong numbers.
func TestGroupingRefuses(t *testing.T) {
	for _, n := range []int{math.MinInt, -2, -1, 21, 22, 25, 1000, math.MaxInt} {
		many, e := turns.Groupings(n)
		refuses(t, fmt.Sprintf("Groupings(%d)", n), nil, many, e)
		for _, at := range []int{-1, 0, 1} {
			list, e := turns.Grouping(n, at)
			refuses(t, fmt.Sprintf("Grouping(%d, %d)", n, at), list, 0, e)
		}
	}
}

// P10.2: all short lists.
func TestPlacesOfGroupings(t *testing.T) {
	for count := range 6 {
		checkPlaces(t, fmt.Sprintf("G(%d)", count), groupings(count), allLists(count, -1, count), turns.GroupingAt)
	}
}

// P10.2: long lists, and those with a wrong number.
func TestGroupingAtRefuses(t *testing.T) {
	lists := [][]int{make([]int, 21), span(0, 20), make([]int, 100000), span(1, 20), append(span(0, 18), 20), append(make([]int, 19), 2)}
	for _, wrong := range []int{math.MinInt, -1, 2, 21, math.MaxInt} {
		lists = append(lists, []int{wrong}, []int{0, wrong}, append(make([]int, 19), wrong), append([]int{0, wrong}, make([]int, 18)...), append(make([]int, 20), wrong))
	}
	for _, list := range lists {
		at, e := turns.GroupingAt(list)
		refuses(t, fmt.Sprintf("GroupingAt(%v)", list), nil, at, e)
	}
}
