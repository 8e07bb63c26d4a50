package loops_test

import (
	"math"
	"math/rand"
	"reflect"
	"slices"
	"testing"

	"ticking/api"
	"ticking/loops"
)

// The kinds of nodes.
const (
	none = iota
	all
	whole
	truth
	couple
	fn
)

func leaf(kind int) api.Type       { return api.Type{Kind: kind} }
func pairOf(a, b int) api.Type     { return api.Type{Kind: couple, A: a, B: b} }
func fnOf(a, b int) api.Type       { return api.Type{Kind: fn, A: a, B: b} }
func divided(n api.Type) bool      { return n.Kind == couple || n.Kind == fn }
func isPosition(n, count int) bool { return n >= 0 && n < count }

// allTypes lists all types with the number of nodes.
func allTypes(nodes int) [][]api.Type {
	choices := []api.Type{leaf(none), leaf(all), leaf(whole), leaf(truth)}
	for a := range nodes {
		for b := range nodes {
			choices = append(choices, pairOf(a, b), fnOf(a, b))
		}
	}
	lists := [][]api.Type{nil}
	for range nodes {
		var longer [][]api.Type
		for _, list := range lists {
			for _, n := range choices {
				longer = append(longer, append(slices.Clone(list), n))
			}
		}
		lists = longer
	}
	return lists
}

// smallTypes lists all types of at most two nodes, and some of three.
func smallTypes() [][]api.Type {
	lists := slices.Concat(allTypes(1), allTypes(2))
	for i, list := range allTypes(3) {
		if i%5 == 0 {
			lists = append(lists, list)
		}
	}
	return lists
}

// someTypes makes random types: with few leaves, with many, with only earlier or near parts, and with nodes that are copies of others.
func someTypes(x *rand.Rand, most int) []api.Type {
	count := 1 + x.Intn(most)
	leaves := 1 + x.Intn(8)
	kinds := []int{couple, fn, couple}[x.Intn(3):]
	style := x.Intn(4)
	t := make([]api.Type, count)
	for i := range t {
		if x.Intn(10) < leaves {
			t[i] = leaf(x.Intn(4))
			continue
		}
		t[i] = api.Type{Kind: kinds[x.Intn(len(kinds))], A: x.Intn(count), B: x.Intn(count)}
		switch style {
		case 0:
			if i == 0 {
				t[i] = leaf(x.Intn(4))
			} else {
				t[i].A, t[i].B = x.Intn(i), x.Intn(i)
			}
		case 1:
			t[i].B = (i + 1) % count
		case 2:
			twin := x.Intn(i + 1)
			if divided(t[twin]) {
				t[i].Kind = t[twin].Kind
				t[i].A = t[twin].A
				t[i].B = t[twin].B
			}
		}
	}
	return t
}

func manyTypes(seed int64, count, most int) [][]api.Type {
	x := rand.New(rand.NewSource(seed))
	var lists [][]api.Type
	for range count {
		lists = append(lists, someTypes(x, most))
	}
	return lists
}

// beside lays lists in one list, and returns the position at which each of them begins.
func beside(lists ...[]api.Type) ([]api.Type, []int) {
	var t []api.Type
	var starts []int
	for _, list := range lists {
		start := len(t)
		starts = append(starts, start)
		for _, n := range list {
			if divided(n) {
				n.A += start
				n.B += start
			}
			t = append(t, n)
		}
	}
	return t, starts
}

// wrongTypes are no types, each for one reason; positions 0 and 1 are in most of them.
func wrongTypes() [][]api.Type {
	lists := [][]api.Type{nil, {}, make([]api.Type, 25), make([]api.Type, 1000)}
	for _, n := range []api.Type{
		leaf(-1), leaf(6), leaf(math.MinInt), leaf(math.MaxInt),
		{Kind: none, A: 1}, {Kind: none, B: 1}, {Kind: all, A: 1}, {Kind: all, B: -1}, {Kind: whole, A: 1}, {Kind: whole, B: 2}, {Kind: truth, A: -1}, {Kind: truth, B: 1},
		pairOf(-1, 0), pairOf(0, -1), pairOf(3, 0), pairOf(0, 3), fnOf(-1, 0), fnOf(0, -1), fnOf(3, 0), fnOf(0, 3),
		pairOf(math.MinInt, 0), fnOf(0, math.MaxInt), {Kind: 6, A: 1, B: 1},
	} {
		lists = append(lists, []api.Type{n, leaf(whole), leaf(all)}, []api.Type{leaf(whole), leaf(all), n})
	}
	return lists
}

// refuses tests that every function returns ErrArg, and nothing else, for the types and positions.
func refuses(t *testing.T, types []api.Type, i, j int) {
	t.Helper()
	if f, e := loops.Sub(types, i, j); !reflect.DeepEqual(f, api.Finding{}) || e != api.ErrArg {
		t.Errorf("Sub(%v, %d, %d) = %v, %d", types, i, j, f, e)
	}
	for _, f := range []api.Finding{{}, {Holds: true}, {Holds: true, Path: "x"}, {Holds: true, Pairs: [][2]int{{i, j}}}} {
		if e := loops.Check(types, i, j, f); e != api.ErrArg {
			t.Errorf("Check(%v, %d, %d, %v) = %d", types, i, j, f, e)
		}
	}
	if is, e := loops.Equal(types, i, j); is || e != api.ErrArg {
		t.Errorf("Equal(%v, %d, %d) = %t, %d", types, i, j, is, e)
	}
	if u, e := loops.Join(types, i, j); len(u) != 0 || e != api.ErrArg {
		t.Errorf("Join(%v, %d, %d) = %v, %d", types, i, j, u, e)
	}
	if u, e := loops.Meet(types, i, j); len(u) != 0 || e != api.ErrArg {
		t.Errorf("Meet(%v, %d, %d) = %v, %d", types, i, j, u, e)
	}
}

// refusesOne does so with the functions of one position.
func refusesOne(t *testing.T, types []api.Type, i int) {
	t.Helper()
	if u, e := loops.Canonical(types, i); len(u) != 0 || e != api.ErrArg {
		t.Errorf("Canonical(%v, %d) = %v, %d", types, i, u, e)
	}
	if n, e := loops.Depth(types, i); n != 0 || e != api.ErrArg {
		t.Errorf("Depth(%v, %d) = %d, %d", types, i, n, e)
	}
}

func TestWrongTypes(t *testing.T) {
	for _, types := range wrongTypes() {
		for _, p := range [][2]int{{0, 0}, {0, 1}, {1, 1}, {-1, 0}} {
			refuses(t, types, p[0], p[1])
			refusesOne(t, types, p[0])
		}
		if order, e := loops.Order(types); len(order) != 0 || e != api.ErrArg {
			t.Errorf("Order(%v) = %v, %d", types, order, e)
		}
	}
}

func TestWrongPositions(t *testing.T) {
	for _, types := range [][]api.Type{{leaf(whole)}, {pairOf(0, 0)}, {fnOf(1, 0), leaf(none)}, make([]api.Type, 24)} {
		for _, wrong := range []int{-1, len(types), len(types) + 1, 24, math.MinInt, math.MaxInt} {
			refuses(t, types, wrong, 0)
			refuses(t, types, 0, wrong)
			refuses(t, types, wrong, wrong)
			refusesOne(t, types, wrong)
		}
	}
}

// As many nodes as are allowed, and parts before and after each of them.
func TestMostNodes(t *testing.T) {
	types := make([]api.Type, 24)
	types[0], types[23] = pairOf(23, 0), fnOf(0, 23)
	for i := range types {
		f, e := loops.Sub(types, i, 23-i)
		if e != api.OK || loops.Check(types, i, 23-i, f) != api.OK {
			t.Errorf("Sub(%d) = %v, %d", i, f, e)
		}
	}
	if u, e := loops.Canonical(types, 0); !slices.Equal(u, []api.Type{pairOf(1, 0), fnOf(0, 1)}) || e != api.OK {
		t.Errorf("Canonical = %v, %d", u, e)
	}
	// 22 nodes are none.
	if order, e := loops.Order(types); len(order) != 22*23 || e != api.OK {
		t.Errorf("Order has %d pairs, %d", len(order), e)
	}
}

// The examples of the chapter.
func TestExamples(t *testing.T) {
	list := []api.Type{pairOf(1, 0), leaf(whole)}
	if is, e := loops.Equal(list, 0, list[0].B); !is || e != api.OK {
		t.Errorf("Equal = %t, %d", is, e)
	}
	if is, e := loops.Equal(list, 0, list[0].A); is || e != api.OK {
		t.Errorf("Equal = %t, %d", is, e)
	}
	if n, e := loops.Depth(list, 0); n != 0 || e != api.ErrNone {
		t.Errorf("Depth = %d, %d", n, e)
	}
	if u, e := loops.Canonical(list, 0); !slices.Equal(u, list) || e != api.OK {
		t.Errorf("Canonical = %v, %d", u, e)
	}
	leaves := []api.Type{leaf(whole), leaf(truth)}
	if f, e := loops.Sub(leaves, 0, 1); f.Holds || f.Path != "" || len(f.Pairs) != 0 || e != api.OK {
		t.Errorf("Sub = %v, %d", f, e)
	}
	fns := []api.Type{leaf(all), leaf(whole), fnOf(0, 1), fnOf(1, 0)}
	if f, e := loops.Sub(fns, 2, 3); !f.Holds || f.Path != "" || e != api.OK || loops.Check(fns, 2, 3, f) != api.OK {
		t.Errorf("Sub = %v, %d", f, e)
	}
	if f, e := loops.Sub(fns, 3, 2); f.Holds || f.Path != "a" && f.Path != "b" || e != api.OK {
		t.Errorf("Sub = %v, %d", f, e)
	}
	for _, path := range []string{"a", "b"} {
		if e := loops.Check(fns, 3, 2, api.Finding{Path: path}); e != api.OK {
			t.Errorf("Check(%s) = %d", path, e)
		}
	}
}

// results calls every function.
func results(types []api.Type, i, j int) []any {
	var list []any
	f, e := loops.Sub(types, i, j)
	list = append(list, f, e, loops.Check(types, i, j, f))
	is, e := loops.Equal(types, i, j)
	list = append(list, is, e)
	depth, e := loops.Depth(types, i)
	list = append(list, depth, e)
	for _, two := range []func([]api.Type, int, int) ([]api.Type, api.Errno){loops.Join, loops.Meet} {
		u, e := two(types, i, j)
		list = append(list, u, e)
	}
	u, e := loops.Canonical(types, i)
	list = append(list, u, e)
	order, e := loops.Order(types)
	return append(list, order, e)
}

// spoil changes all lists among the results.
func spoil(list []any) {
	for _, result := range list {
		switch r := result.(type) {
		case api.Finding:
			for i := range r.Pairs {
				r.Pairs[i] = [2]int{-7, -7}
			}
		case []api.Type:
			for i := range r {
				r[i] = api.Type{Kind: -7}
			}
		case [][2]int:
			for i := range r {
				r[i] = [2]int{-7, -7}
			}
		}
	}
}

// Calls change no argument, keep none of the lists, and return the same each time.
func TestArgumentsStay(t *testing.T) {
	x := rand.New(rand.NewSource(66))
	for _, types := range manyTypes(65, 300, 24) {
		i, j := x.Intn(len(types)), x.Intn(len(types))
		before := slices.Clone(types)
		spoil(results(types, i, j))
		if !slices.Equal(types, before) {
			t.Fatalf("%v has become %v", before, types)
		}
		again := results(types, i, j)
		copied := results(before, i, j)
		if !reflect.DeepEqual(again, copied) {
			t.Fatalf("%v, %d, %d: %v, then %v", types, i, j, copied, again)
		}
		pairs := [][2]int{{i, j}, {j, i}, {i, j}}
		kept := slices.Clone(pairs)
		loops.Check(types, i, j, api.Finding{Holds: true, Pairs: pairs})
		if !slices.Equal(pairs, kept) {
			t.Fatalf("pairs %v have become %v", kept, pairs)
		}
	}
}
