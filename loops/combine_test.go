package loops_test

import (
	"math/rand"
	"slices"
	"testing"

	"ticking/api"
	"ticking/loops"
)

// P6.3: joins and meets. P6.5: what follows from the promises.

// claim says that a node is the join, or the meet, of two others.
type claim struct {
	join bool
	i, j int
	node int
}

// isMade follows the document's rules from a claim to all that it rests on.
func isMade(types []api.Type, first claim) bool {
	equal := equals(types)
	known := map[claim]bool{first: true}
	for claims := []claim{first}; len(claims) > 0; {
		c := claims[0]
		claims = claims[1:]
		rests, ok := ruled(types, equal, c)
		if !ok {
			return false
		}
		for _, next := range rests {
			if !known[next] {
				known[next] = true
				claims = append(claims, next)
			}
		}
	}
	return true
}

// ruled holds a claim against the rules, and returns the claims about parts.
func ruled(types []api.Type, equal map[[2]int]bool, c claim) ([]claim, bool) {
	i, j, node := types[c.i], types[c.j], types[c.node]
	least, greatest := none, all
	if !c.join {
		least, greatest = all, none
	}
	switch {
	case i.Kind == least:
		return nil, equal[[2]int{c.j, c.node}]
	case j.Kind == least:
		return nil, equal[[2]int{c.i, c.node}]
	case i.Kind == greatest || j.Kind == greatest || i.Kind != j.Kind:
		return nil, node.Kind == greatest
	case i.Kind != node.Kind:
		return nil, false
	case i.Kind == couple:
		return []claim{{c.join, i.A, j.A, node.A}, {c.join, i.B, j.B, node.B}}, true
	case i.Kind == fn:
		return []claim{{!c.join, i.A, j.A, node.A}, {c.join, i.B, j.B, node.B}}, true
	}
	return nil, true
}

func checkCombined(t *testing.T, types []api.Type, i, j int) {
	t.Helper()
	for _, join := range []bool{true, false} {
		combine := loops.Meet
		if join {
			combine = loops.Join
		}
		u, e := combine(types, i, j)
		if e != api.OK || !isCanonical(u) {
			t.Fatalf("join %t of %v, %d, %d: %v, %d", join, types, i, j, u, e)
		}
		if both, starts := beside(types, u); !isMade(both, claim{join, i, j, starts[1]}) {
			t.Fatalf("join %t of %v, %d, %d: %v is another tree", join, types, i, j, u)
		}
	}
}

func TestCombinedSmall(t *testing.T) {
	for _, types := range smallTypes() {
		for i := range types {
			for j := range types {
				checkCombined(t, types, i, j)
			}
		}
	}
}

func TestCombinedSome(t *testing.T) {
	x := rand.New(rand.NewSource(21))
	for _, types := range slices.Concat(manyTypes(22, 400, 7), manyTypes(23, 100, 24)) {
		checkCombined(t, types, x.Intn(len(types)), x.Intn(len(types)))
	}
}

func TestCombinedNamed(t *testing.T) {
	types := []api.Type{leaf(none), leaf(all), leaf(whole), leaf(truth), pairOf(2, 3), pairOf(3, 3), fnOf(2, 3), fnOf(1, 2), pairOf(8, 2), pairOf(3, 8)}
	for _, c := range []struct {
		i, j       int
		join, meet []api.Type
	}{
		{0, 0, types[:1], types[:1]},
		{1, 1, types[1:2], types[1:2]},
		{0, 1, types[1:2], types[:1]},
		{0, 4, []api.Type{pairOf(1, 2), leaf(whole), leaf(truth)}, types[:1]},
		{1, 4, types[1:2], []api.Type{pairOf(1, 2), leaf(whole), leaf(truth)}},
		{2, 2, types[2:3], types[2:3]},
		{2, 3, types[1:2], types[:1]},
		{3, 4, types[1:2], types[:1]},
		{4, 6, types[1:2], types[:1]},
		{4, 5, []api.Type{pairOf(1, 2), leaf(all), leaf(truth)}, []api.Type{pairOf(1, 2), leaf(none), leaf(truth)}},
		{6, 7, []api.Type{fnOf(1, 2), leaf(whole), leaf(all)}, []api.Type{fnOf(1, 2), leaf(all), leaf(none)}},
		{8, 8, []api.Type{pairOf(0, 1), leaf(whole)}, []api.Type{pairOf(0, 1), leaf(whole)}},
		{8, 9, []api.Type{pairOf(1, 1), leaf(all)}, []api.Type{pairOf(1, 1), leaf(none)}},
	} {
		for _, p := range [][2]int{{c.i, c.j}, {c.j, c.i}} {
			if u, e := loops.Join(types, p[0], p[1]); !slices.Equal(u, c.join) || e != api.OK {
				t.Errorf("Join(%v) = %v, %d", p, u, e)
			}
			if u, e := loops.Meet(types, p[0], p[1]); !slices.Equal(u, c.meet) || e != api.OK {
				t.Errorf("Meet(%v) = %v, %d", p, u, e)
			}
		}
	}
}

// The join of two rings goes through all pairs of their nodes, and has more nodes than types may have.
func TestCombinedLarge(t *testing.T) {
	types := meeting([2]int{22, 22}, [2]int{23, 23})
	types[23] = leaf(truth)
	for _, c := range []struct {
		name    string
		combine func([]api.Type, int, int) ([]api.Type, api.Errno)
		other   int
	}{{"Join", loops.Join, all}, {"Meet", loops.Meet, none}} {
		u, e := c.combine(types, 0, 9)
		if len(u) != 117+3 || e != api.OK || !isCanonical(u) {
			t.Fatalf("%s has %d nodes, %d", c.name, len(u), e)
		}
		at := 0
		for k := range 200 {
			want := c.other
			switch first, second := k%9 == 8, k%13 == 12; {
			case first && second:
				want = truth
			case !first && !second:
				want = whole
			}
			if u[at].Kind != couple || u[u[at].A].Kind != want {
				t.Fatalf("%s: %d is not the kind in place %d", c.name, u[u[at].A].Kind, k)
			}
			at = u[at].B
		}
	}
}

// The join is a supertype of both, and a subtype of all other ones; the meet the other way round.
func TestSmallest(t *testing.T) {
	// Trees with at most two levels are enough to tell joins that are too great from right ones.
	trees := []api.Type{leaf(none), leaf(all), leaf(whole), leaf(truth)}
	for a := range 4 {
		for b := range 4 {
			trees = append(trees, pairOf(a, b), fnOf(a, b))
		}
	}
	x := rand.New(rand.NewSource(24))
	for _, types := range slices.Concat(smallTypes()[:150], manyTypes(25, 150, 6)) {
		i, j := x.Intn(len(types)), x.Intn(len(types))
		join, _ := loops.Join(types, i, j)
		meet, _ := loops.Meet(types, i, j)
		everything, starts := beside(types, join, meet, trees)
		below := subtypes(everything)
		is := func(i, j int) bool { return below[[2]int{i, j}] }
		if up, down := starts[1], starts[2]; !is(i, up) || !is(j, up) || !is(down, i) || !is(down, j) {
			t.Fatalf("%v, %d, %d: %v, %v", types, i, j, join, meet)
		}
		for k := range everything {
			if is(i, k) && is(j, k) && !is(starts[1], k) {
				t.Fatalf("Join(%v, %d, %d) = %v: %v of %d is smaller", types, i, j, join, everything, k)
			}
			if is(k, i) && is(k, j) && !is(k, starts[2]) {
				t.Fatalf("Meet(%v, %d, %d) = %v: %v of %d is greater", types, i, j, meet, everything, k)
			}
		}
	}
}

// of combines a list of types with a node of others, if both fit in one list.
func of(combine func([]api.Type, int, int) ([]api.Type, api.Errno), u, types []api.Type, k int) ([]api.Type, bool) {
	both, starts := beside(u, types)
	if len(both) > api.MaxTypes {
		return nil, false
	}
	result, e := combine(both, 0, starts[1]+k)
	return result, e == api.OK
}

func TestLaws(t *testing.T) {
	x := rand.New(rand.NewSource(26))
	tested := 0
	for _, types := range slices.Concat(smallTypes(), manyTypes(27, 1000, 6)) {
		i, j, k := x.Intn(len(types)), x.Intn(len(types)), x.Intn(len(types))
		for _, ways := range [][2]func([]api.Type, int, int) ([]api.Type, api.Errno){{loops.Join, loops.Meet}, {loops.Meet, loops.Join}} {
			one, other := ways[0], ways[1]
			ij, _ := one(types, i, j)
			if ji, _ := one(types, j, i); !slices.Equal(ij, ji) {
				t.Fatalf("%v, %d, %d are not commutative: %v, %v", types, i, j, ij, ji)
			}
			jk, _ := one(types, j, k)
			left, ok := of(one, ij, types, k)
			right, fits := of(one, jk, types, i)
			if ok && fits {
				tested++
				if !slices.Equal(left, right) {
					t.Fatalf("%v, %d, %d, %d are not associative: %v, %v", types, i, j, k, left, right)
				}
			}
			self, _ := loops.Canonical(types, i)
			if absorbed, ok := of(other, ij, types, i); ok && !slices.Equal(absorbed, self) {
				t.Fatalf("%v, %d does not absorb %d: %v, not %v", types, i, j, absorbed, self)
			}
			if twice, _ := one(types, i, i); !slices.Equal(twice, self) {
				t.Fatalf("%v, %d and itself: %v", types, i, twice)
			}
		}
	}
	if tested < 2000 {
		t.Errorf("only %d were tested", tested)
	}
}
