package loops_test

import (
	"math"
	"math/rand"
	"slices"
	"strings"
	"testing"

	"ticking/api"
	"ticking/loops"
)

// P6.1: subtypes.

// leads follows the document: to which pairs a and b lead.
func leads(types []api.Type, p [2]int) map[byte][2]int {
	i, j := types[p[0]], types[p[1]]
	switch {
	case i.Kind == couple && j.Kind == couple:
		return map[byte][2]int{'a': {i.A, j.A}, 'b': {i.B, j.B}}
	case i.Kind == fn && j.Kind == fn:
		return map[byte][2]int{'a': {j.A, i.A}, 'b': {i.B, j.B}}
	}
	return nil
}

// isSupported reports whether a pair may be in a closed relation with the others that are in it.
func isSupported(types []api.Type, p [2]int, in func([2]int) bool) bool {
	i, j := types[p[0]], types[p[1]]
	if i.Kind == none || j.Kind == all || i.Kind == j.Kind && (i.Kind == whole || i.Kind == truth) {
		return true
	}
	next := leads(types, p)
	return next != nil && in(next['a']) && in(next['b'])
}

// subtypes takes pairs away from all pairs until the rest is closed: the union of all closed relations.
func subtypes(types []api.Type) map[[2]int]bool {
	rest := map[[2]int]bool{}
	for i := range types {
		for j := range types {
			rest[[2]int{i, j}] = true
		}
	}
	for {
		before := len(rest)
		for p := range rest {
			if !isSupported(types, p, func(q [2]int) bool { return rest[q] }) {
				delete(rest, p)
			}
		}
		if len(rest) == before {
			return rest
		}
	}
}

// isFinding follows the document's definition of a finding.
func isFinding(types []api.Type, i, j int, f api.Finding) bool {
	if f.Holds {
		return f.Path == "" && isRelation(types, f.Pairs) && slices.Contains(f.Pairs, [2]int{i, j})
	}
	return len(f.Pairs) == 0 && doesRefute(types, [2]int{i, j}, f.Path)
}

func isRelation(types []api.Type, pairs [][2]int) bool {
	if len(pairs) > 600 {
		return false
	}
	for _, p := range pairs {
		if !isPosition(p[0], len(types)) || !isPosition(p[1], len(types)) {
			return false
		}
	}
	return !slices.ContainsFunc(pairs, func(p [2]int) bool {
		return !isSupported(types, p, func(q [2]int) bool { return slices.Contains(pairs, q) })
	})
}

func doesRefute(types []api.Type, p [2]int, path string) bool {
	for at := 0; ; at++ {
		if types[p[0]].Kind == none || types[p[1]].Kind == all {
			return false
		}
		if at == len(path) {
			return types[p[0]].Kind != types[p[1]].Kind
		}
		next, ok := leads(types, p)[path[at]]
		if !ok {
			return false
		}
		p = next
	}
}

func checkSub(t *testing.T, types []api.Type) {
	t.Helper()
	holds := subtypes(types)
	for i := range types {
		for j := range types {
			f, e := loops.Sub(types, i, j)
			if e != api.OK || f.Holds != holds[[2]int{i, j}] || !isFinding(types, i, j, f) {
				t.Fatalf("Sub(%v, %d, %d) = %v, %d", types, i, j, f, e)
			}
			if e := loops.Check(types, i, j, f); e != api.OK {
				t.Fatalf("Check(%v, %d, %d, %v) = %d", types, i, j, f, e)
			}
		}
	}
}

func TestSubSmall(t *testing.T) {
	for _, types := range slices.Concat(allTypes(1), allTypes(2), allTypes(3)) {
		checkSub(t, types)
	}
}

func TestSubSome(t *testing.T) {
	for _, types := range manyTypes(1, 1500, 24) {
		checkSub(t, types)
	}
}

// meeting makes two rings of pairs, of 9 and 13 nodes, with marks as their first parts: the ones of the last nodes differ from the others.
func meeting(marks, last [2]int) []api.Type {
	var types []api.Type
	for ring, length := range []int{9, 13} {
		start := len(types)
		for k := range length {
			mark := marks[ring]
			if k == length-1 {
				mark = last[ring]
			}
			types = append(types, pairOf(mark, start+(k+1)%length))
		}
	}
	return append(types, leaf(whole), leaf(all))
}

// The marks that differ meet for the first time after 116 steps: there is no other refuting path.
func TestSubLongPath(t *testing.T) {
	types := meeting([2]int{22, 23}, [2]int{23, 22})
	if f, e := loops.Sub(types, 0, 9); f.Holds || f.Path != strings.Repeat("b", 116)+"a" || len(f.Pairs) != 0 || e != api.OK {
		t.Errorf("Sub = %v, %d", f, e)
	}
	round := api.Finding{Path: strings.Repeat("b", 117*1000+116) + "a"}
	if e := loops.Check(types, 0, 9, round); e != api.OK {
		t.Errorf("Check of a long path: %d", e)
	}
	round.Path = "b" + round.Path
	if e := loops.Check(types, 0, 9, round); e != api.ErrAnswer {
		t.Errorf("Check of a long wrong path: %d", e)
	}
	// And the ones that are alike never do.
	types = meeting([2]int{22, 23}, [2]int{22, 23})
	f, e := loops.Sub(types, 0, 9)
	if !f.Holds || len(f.Pairs) < 117 || !isFinding(types, 0, 9, f) || e != api.OK {
		t.Errorf("Sub = %v, %d", f, e)
	}
}

// checkAs tests that Check returns what the definition says.
func checkAs(t *testing.T, types []api.Type, i, j int, f api.Finding) bool {
	t.Helper()
	want := api.ErrAnswer
	if isFinding(types, i, j, f) {
		want = api.OK
	}
	if e := loops.Check(types, i, j, f); e != want {
		t.Fatalf("Check(%v, %d, %d, %v) = %d, not %d", types, i, j, f, e, want)
	}
	return want == api.OK
}

// All relations of types with at most two nodes, and all short paths.
func TestCheckSmall(t *testing.T) {
	paths := []string{""}
	for k := 0; len(paths) < 60; k++ {
		paths = append(paths, paths[k]+"a", paths[k]+"b")
	}
	right := 0
	for _, types := range slices.Concat(allTypes(1), allTypes(2)) {
		n := len(types)
		for p := range n * n {
			i, j := p/n, p%n
			for chosen := range 1 << (n * n) {
				var pairs [][2]int
				for q := range n * n {
					if chosen>>q&1 == 1 {
						pairs = append(pairs, [2]int{q / n, q % n})
					}
				}
				if checkAs(t, types, i, j, api.Finding{Holds: true, Pairs: pairs}) {
					right++
				}
			}
			for _, path := range paths {
				if checkAs(t, types, i, j, api.Finding{Path: path}) {
					right++
				}
			}
		}
	}
	if right < 1000 {
		t.Errorf("only %d findings are right", right)
	}
}

// changed returns findings that are near to f, most of them wrong.
func changed(x *rand.Rand, nodes int, f api.Finding) []api.Finding {
	other := [2]int{x.Intn(nodes), x.Intn(nodes)}
	cut := x.Intn(len(f.Path) + 1)
	list := []api.Finding{
		{Holds: !f.Holds, Pairs: f.Pairs, Path: f.Path},
		{Holds: f.Holds, Pairs: append(slices.Clone(f.Pairs), other), Path: f.Path},
		{Holds: f.Holds, Pairs: f.Pairs, Path: f.Path + "a"},
		{Holds: f.Holds, Pairs: f.Pairs, Path: f.Path + "b"},
		{Holds: f.Holds, Pairs: f.Pairs, Path: f.Path[:cut] + "c" + f.Path[cut:]},
		{Holds: f.Holds, Pairs: f.Pairs, Path: f.Path[:cut] + "b" + f.Path[cut:]},
		{Holds: f.Holds, Pairs: f.Pairs, Path: f.Path[:cut]},
		{Holds: f.Holds, Path: f.Path},
		{Holds: f.Holds, Pairs: [][2]int{other}, Path: f.Path},
		{},
		{Holds: true},
	}
	if len(f.Pairs) > 0 {
		at := x.Intn(len(f.Pairs))
		twice := append(slices.Clone(f.Pairs), f.Pairs[at])
		less := slices.Delete(slices.Clone(f.Pairs), at, at+1)
		turned := slices.Clone(f.Pairs)
		slices.Reverse(turned)
		list = append(list, api.Finding{Holds: true, Pairs: twice}, api.Finding{Holds: true, Pairs: less}, api.Finding{Holds: true, Pairs: turned})
		for _, wrong := range [][2]int{{-1, 0}, {0, -1}, {nodes, 0}, {0, nodes}, {math.MinInt, 0}, {0, math.MaxInt}} {
			list = append(list, api.Finding{Holds: true, Pairs: append(slices.Clone(f.Pairs), wrong)})
		}
	}
	return list
}

func TestCheckSome(t *testing.T) {
	x := rand.New(rand.NewSource(2))
	right, wrong := 0, 0
	for _, types := range slices.Concat(manyTypes(3, 400, 4), manyTypes(4, 400, 24)) {
		for range 6 {
			i, j := x.Intn(len(types)), x.Intn(len(types))
			f, _ := loops.Sub(types, i, j)
			for _, g := range changed(x, len(types), f) {
				if checkAs(t, types, i, j, g) {
					right++
				} else {
					wrong++
				}
			}
		}
	}
	if right < 1000 || wrong < 1000 {
		t.Errorf("%d findings are right, %d are wrong", right, wrong)
	}
}

func TestCheckNamed(t *testing.T) {
	types := []api.Type{pairOf(1, 2), leaf(none), leaf(all), leaf(whole), leaf(truth), pairOf(3, 3), fnOf(3, 4), fnOf(4, 3)}
	for _, c := range []struct {
		i, j int
		f    api.Finding
		want api.Errno
	}{
		{3, 4, api.Finding{}, api.OK},
		{3, 3, api.Finding{}, api.ErrAnswer},
		{1, 3, api.Finding{}, api.ErrAnswer}, // none on the left
		{3, 2, api.Finding{}, api.ErrAnswer}, // all on the right
		{2, 1, api.Finding{}, api.OK},
		{0, 6, api.Finding{}, api.OK},
		{0, 6, api.Finding{Path: "a"}, api.ErrAnswer}, // no way on
		{3, 4, api.Finding{Path: "b"}, api.ErrAnswer},
		{5, 0, api.Finding{Path: "a"}, api.OK},
		{5, 0, api.Finding{Path: "b"}, api.ErrAnswer},
		{5, 0, api.Finding{}, api.ErrAnswer},
		{6, 7, api.Finding{Path: "a"}, api.OK},
		{6, 7, api.Finding{Path: "A"}, api.ErrAnswer},
		{6, 7, api.Finding{Path: "\x00"}, api.ErrAnswer},
		{6, 7, api.Finding{Path: "a", Pairs: [][2]int{{6, 7}}}, api.ErrAnswer},
		{0, 5, api.Finding{Holds: true, Pairs: [][2]int{{0, 5}}}, api.ErrAnswer},
		{3, 2, api.Finding{Holds: true, Pairs: [][2]int{{3, 2}}}, api.OK},
		{3, 2, api.Finding{Holds: true, Pairs: [][2]int{{3, 2}}, Path: "a"}, api.ErrAnswer},
		{3, 2, api.Finding{Holds: true, Pairs: [][2]int{{3, 2}, {1, 1}, {2, 2}, {1, 2}}}, api.OK},
		{3, 2, api.Finding{Holds: true, Pairs: [][2]int{{3, 2}, {2, 1}}}, api.ErrAnswer},
		{3, 2, api.Finding{Holds: true}, api.ErrAnswer},
		{6, 6, api.Finding{Holds: true, Pairs: [][2]int{{6, 6}, {3, 3}, {4, 4}}}, api.OK},
		{6, 6, api.Finding{Holds: true, Pairs: [][2]int{{6, 6}, {3, 3}}}, api.ErrAnswer},
		{6, 6, api.Finding{Holds: true, Pairs: [][2]int{{6, 6}, {4, 4}}}, api.ErrAnswer},
	} {
		if e := loops.Check(types, c.i, c.j, c.f); e != c.want {
			t.Errorf("Check(%d, %d, %v) = %d", c.i, c.j, c.f, e)
		}
	}
}

// The parts of fn are turned round in a: 3, 2 is needed there, and 2, 3 is not enough.
func TestCheckTurned(t *testing.T) {
	types := []api.Type{fnOf(3, 2), fnOf(2, 2), leaf(whole), leaf(all)}
	for _, c := range []struct {
		first [2]int
		want  api.Errno
	}{{[2]int{2, 3}, api.OK}, {[2]int{3, 2}, api.ErrAnswer}, {[2]int{2, 2}, api.ErrAnswer}} {
		f := api.Finding{Holds: true, Pairs: [][2]int{{0, 1}, c.first, {2, 2}}}
		if e := loops.Check(types, 0, 1, f); e != c.want {
			t.Errorf("Check with %v = %d", c.first, e)
		}
	}
}

// At most MaxPairs pairs are a relation, some of them several times.
func TestCheckMostPairs(t *testing.T) {
	types := make([]api.Type, 24)
	var pairs [][2]int
	for i := range types {
		types[i] = pairOf((i+1)%24, 23-i)
		for j := range types {
			pairs = append(pairs, [2]int{i, j})
		}
	}
	pairs = append(pairs, pairs[:24]...)
	if e := loops.Check(types, 3, 7, api.Finding{Holds: true, Pairs: pairs}); e != api.OK {
		t.Errorf("%d pairs: %d", len(pairs), e)
	}
	pairs = append(pairs, pairs[0])
	if e := loops.Check(types, 3, 7, api.Finding{Holds: true, Pairs: pairs}); e != api.ErrAnswer {
		t.Errorf("%d pairs: %d", len(pairs), e)
	}
	if e := loops.Check(types, 3, 7, api.Finding{Holds: true, Pairs: pairs[:575]}); e != api.ErrAnswer {
		t.Errorf("not closed: %d", e)
	}
}
