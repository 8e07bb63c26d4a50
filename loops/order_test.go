package loops_test

import (
	"slices"
	"testing"

	"ticking/api"
	"ticking/loops"
)

// P6.4: depths and orders. P6.5: what follows from the promises.

// entered lists the sets of nodes that can be reached by entering 0, 1, 2 and so on parts, as long as there are any; more than there are nodes mean that there is no end.
func entered(types []api.Type, i int) int {
	at := []int{i}
	for depth := 0; ; depth++ {
		var next []int
		for _, node := range at {
			if n := types[node]; divided(n) {
				next = append(next, n.A, n.B)
			}
		}
		slices.Sort(next)
		at = slices.Compact(next)
		if len(at) == 0 || depth > len(types) {
			return depth
		}
	}
}

func TestDepth(t *testing.T) {
	deep, endless := 0, 0
	for _, types := range slices.Concat(allTypes(1), allTypes(2), allTypes(3), manyTypes(31, 2000, 24)) {
		for i := range types {
			n, e := loops.Depth(types, i)
			want := entered(types, i)
			if want > len(types) {
				endless++
				if n != 0 || e != api.ErrNone {
					t.Fatalf("Depth(%v, %d) = %d, %d", types, i, n, e)
				}
				continue
			}
			if n != want || e != api.OK {
				t.Fatalf("Depth(%v, %d) = %d, %d, not %d", types, i, n, e, want)
			}
			if n > 3 {
				deep++
			}
		}
	}
	if deep < 500 || endless < 500 {
		t.Errorf("%d are deep, %d are endless", deep, endless)
	}
}

// The deepest finite tree, with its nodes in both orders; and a leaf beside a loop.
func TestDepthMost(t *testing.T) {
	var down, up []api.Type
	for i := range 23 {
		down = append(down, pairOf(23, i+1))
	}
	down = append(down, leaf(whole))
	up = append(up, leaf(whole))
	for i := range 23 {
		up = append(up, fnOf(i, 0))
	}
	for i := range 24 {
		if n, e := loops.Depth(down, i); n != 23-i || e != api.OK {
			t.Errorf("Depth(down, %d) = %d, %d", i, n, e)
		}
		if n, e := loops.Depth(up, i); n != i || e != api.OK {
			t.Errorf("Depth(up, %d) = %d, %d", i, n, e)
		}
	}
	down[22].B = 0
	for i := range 23 {
		if n, e := loops.Depth(down, i); n != 0 || e != api.ErrNone {
			t.Errorf("Depth of a ring, %d = %d, %d", i, n, e)
		}
	}
	if n, e := loops.Depth(down, 23); n != 0 || e != api.OK {
		t.Errorf("Depth of a leaf = %d, %d", n, e)
	}
}

func TestOrder(t *testing.T) {
	for _, types := range slices.Concat(allTypes(1), allTypes(2), allTypes(3), manyTypes(32, 300, 24)) {
		below := subtypes(types)
		var want [][2]int
		for i := range types {
			for j := range types {
				if i != j && below[[2]int{i, j}] {
					want = append(want, [2]int{i, j})
				}
			}
		}
		if order, e := loops.Order(types); !slices.Equal(order, want) || e != api.OK {
			t.Fatalf("Order(%v) = %v, %d, not %v", types, order, e, want)
		}
	}
	if order, e := loops.Order([]api.Type{fnOf(1, 2), leaf(all), leaf(whole), fnOf(2, 1), leaf(none)}); e != api.OK ||
		!slices.Equal(order, [][2]int{{0, 1}, {0, 3}, {2, 1}, {3, 1}, {4, 0}, {4, 1}, {4, 2}, {4, 3}}) {
		t.Errorf("Order = %v, %d", order, e)
	}
}

// Being a subtype is reflexive and transitive, no pair has findings of both kinds, and two subtypes of each other are equal.
func TestSubLaws(t *testing.T) {
	for _, types := range slices.Concat(smallTypes(), manyTypes(33, 200, 12)) {
		is := func(i, j int) bool {
			f, _ := loops.Sub(types, i, j)
			return f.Holds
		}
		for i := range types {
			if !is(i, i) {
				t.Fatalf("%v: %d is no subtype of itself", types, i)
			}
			for j := range types {
				equal, _ := loops.Equal(types, i, j)
				if equal != (is(i, j) && is(j, i)) {
					t.Fatalf("%v, %d, %d: Equal is %t", types, i, j, equal)
				}
				for k := range types {
					if is(i, j) && is(j, k) && !is(i, k) {
						t.Fatalf("%v: %d, %d, %d are not transitive", types, i, j, k)
					}
				}
			}
		}
		checkNeverBoth(t, types)
	}
}

// The relation of Sub and a path of at most four steps are never both right.
func checkNeverBoth(t *testing.T, types []api.Type) {
	t.Helper()
	paths := []string{""}
	for k := 0; k < 15; k++ {
		paths = append(paths, paths[k]+"a", paths[k]+"b")
	}
	order, _ := loops.Order(types)
	for _, p := range order {
		for _, path := range paths {
			if loops.Check(types, p[0], p[1], api.Finding{Path: path}) == api.OK {
				t.Fatalf("%v, %v is refuted by %s", types, p, path)
			}
		}
	}
}
