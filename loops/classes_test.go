package loops_test

import (
	"slices"
	"strconv"
	"testing"

	"ticking/api"
	"ticking/loops"
)

// P6.1: equal nodes. P6.2: canonical types.

// unfolded writes the tree of a node down to a depth.
func unfolded(types []api.Type, i, depth int) string {
	n := types[i]
	text := strconv.Itoa(n.Kind)
	if divided(n) && depth > 0 {
		text += "(" + unfolded(types, n.A, depth-1) + unfolded(types, n.B, depth-1) + ")"
	}
	return text
}

// equals lists the pairs of nodes that stand for the same tree: no difference of kinds can be reached from them.
func equals(types []api.Type) map[[2]int]bool {
	differ := map[[2]int]bool{}
	for {
		before := len(differ)
		for i, m := range types {
			for j, n := range types {
				if m.Kind != n.Kind || divided(m) && (differ[[2]int{m.A, n.A}] || differ[[2]int{m.B, n.B}]) {
					differ[[2]int{i, j}] = true
				}
			}
		}
		if len(differ) == before {
			break
		}
	}
	same := map[[2]int]bool{}
	for i := range types {
		for j := range types {
			same[[2]int{i, j}] = !differ[[2]int{i, j}]
		}
	}
	return same
}

// Two trees of three nodes that differ do so within two levels.
func TestEqualSmall(t *testing.T) {
	for _, types := range slices.Concat(allTypes(1), allTypes(2), allTypes(3)) {
		for i := range types {
			for j := range types {
				want := unfolded(types, i, 3) == unfolded(types, j, 3)
				if is, e := loops.Equal(types, i, j); is != want || e != api.OK {
					t.Fatalf("Equal(%v, %d, %d) = %t, %d", types, i, j, is, e)
				}
			}
		}
	}
}

func TestEqualSome(t *testing.T) {
	same, other := 0, 0
	for _, types := range manyTypes(11, 1000, 24) {
		equal := equals(types)
		for i := range types {
			for j := range types {
				is, e := loops.Equal(types, i, j)
				if is != equal[[2]int{i, j}] || e != api.OK {
					t.Fatalf("Equal(%v, %d, %d) = %t, %d", types, i, j, is, e)
				}
				switch {
				case is && i != j:
					same++
				case !is && types[i].Kind == types[j].Kind:
					other++
				}
			}
		}
	}
	if same < 1000 || other < 1000 {
		t.Errorf("%d pairs are equal, %d are not but have equal kinds", same, other)
	}
}

// Two nodes of a chain that ends in different leaves, deep below them.
func TestEqualDeep(t *testing.T) {
	var types []api.Type
	for i := range 11 {
		types = append(types, pairOf(i+1, i+1))
	}
	types = append(types, leaf(whole))
	for i := range 11 {
		types = append(types, pairOf(i+13, i+13))
	}
	for kind, want := range []bool{false, false, true, false} {
		chains := append(slices.Clone(types), leaf(kind))
		if is, e := loops.Equal(chains, 0, 12); is != want || e != api.OK {
			t.Errorf("Equal with %d = %t, %d", kind, is, e)
		}
	}
	// A chain is not equal to itself without its first node.
	if is, e := loops.Equal(append(types, leaf(whole)), 0, 13); is || e != api.OK {
		t.Errorf("Equal = %t, %d", is, e)
	}
}

// isCanonical tests that u are canonical types, and nothing about what they stand for.
func isCanonical(u []api.Type) bool {
	reached := []int{0}
	for at := 0; at < len(reached); at++ {
		if reached[at] >= len(u) {
			return false
		}
		n := u[reached[at]]
		switch {
		case divided(n):
			for _, part := range []int{n.A, n.B} {
				if !slices.Contains(reached, part) {
					reached = append(reached, part)
				}
			}
		case n.Kind < none || n.Kind > truth || n.A != 0 || n.B != 0:
			return false
		}
	}
	if len(reached) != len(u) || !slices.IsSorted(reached) {
		return false
	}
	for p, same := range equals(u) {
		if same && p[0] != p[1] {
			return false
		}
	}
	return true
}

func checkCanonical(t *testing.T, types []api.Type) int {
	t.Helper()
	smaller := 0
	for i := range types {
		u, e := loops.Canonical(types, i)
		if e != api.OK || !isCanonical(u) {
			t.Fatalf("Canonical(%v, %d) = %v, %d", types, i, u, e)
		}
		if both, starts := beside(types, u); !equals(both)[[2]int{i, starts[1]}] {
			t.Fatalf("Canonical(%v, %d) = %v is another tree", types, i, u)
		}
		if len(u) > 1 && len(u) < len(types) {
			smaller++
		}
	}
	return smaller
}

func TestCanonicalSmall(t *testing.T) {
	for _, types := range slices.Concat(allTypes(1), allTypes(2), allTypes(3)) {
		checkCanonical(t, types)
	}
}

func TestCanonicalSome(t *testing.T) {
	smaller := 0
	for _, types := range slices.Concat(manyTypes(12, 200, 8), manyTypes(13, 60, 24)) {
		smaller += checkCanonical(t, types)
	}
	if smaller < 300 {
		t.Errorf("only %d canonical types are smaller", smaller)
	}
}

func TestCanonicalNamed(t *testing.T) {
	for _, c := range []struct {
		types []api.Type
		first int
		want  []api.Type
	}{
		// A before B, and both before the parts of A.
		{[]api.Type{leaf(whole), leaf(truth), leaf(all), fnOf(1, 0), pairOf(2, 2), pairOf(3, 4)}, 5,
			[]api.Type{pairOf(1, 2), fnOf(3, 4), pairOf(5, 5), leaf(truth), leaf(whole), leaf(all)}},
		// A ring of four equal nodes, one of which has none for a part that is no part of the ring.
		{[]api.Type{pairOf(1, 2), pairOf(2, 3), pairOf(3, 0), pairOf(0, 1), leaf(none)}, 2, []api.Type{pairOf(0, 0)}},
		{[]api.Type{fnOf(1, 0), fnOf(0, 1)}, 1, []api.Type{fnOf(0, 0)}},
		{[]api.Type{fnOf(1, 0), pairOf(0, 1)}, 1, []api.Type{pairOf(1, 0), fnOf(0, 1)}},
		{[]api.Type{leaf(all), leaf(truth), leaf(truth)}, 2, []api.Type{leaf(truth)}},
		{[]api.Type{pairOf(1, 2), leaf(whole), leaf(whole)}, 0, []api.Type{pairOf(1, 1), leaf(whole)}},
	} {
		if u, e := loops.Canonical(c.types, c.first); !slices.Equal(u, c.want) || e != api.OK {
			t.Errorf("Canonical(%v, %d) = %v, %d", c.types, c.first, u, e)
		}
	}
}

// P6.5: equal nodes have the same canonical types, and no others have.
func TestEqualCanonical(t *testing.T) {
	for _, types := range slices.Concat(smallTypes(), manyTypes(14, 150, 24)) {
		equal := equals(types)
		var canonical [][]api.Type
		for i := range types {
			u, _ := loops.Canonical(types, i)
			canonical = append(canonical, u)
		}
		for i := range types {
			for j := range types {
				if slices.Equal(canonical[i], canonical[j]) != equal[[2]int{i, j}] {
					t.Fatalf("%v, %d and %d: %v, %v", types, i, j, canonical[i], canonical[j])
				}
			}
		}
	}
}
