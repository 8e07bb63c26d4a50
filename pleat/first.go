package pleat

import (
	"slices"
	"strings"

	"ticking/api"
)

// both are two machines that look at the same trees.
type both struct{ r, s *machine }

// pair holds the states that a tree has for both.
type pair struct{ r, s set }

func readBoth(r, s api.Recognizer) (both, bool) {
	m, first := read(r)
	n, second := read(s)
	return both{m, n}, first && second
}

func (b both) leaf(symbol byte) pair {
	return pair{b.r.leaves[symbol], b.s.leaves[symbol]}
}

func (b both) fold(p pair) pair {
	return pair{b.r.folds[p.r], b.s.folds[p.s]}
}

func (b both) seam(p, q pair) pair {
	return pair{b.r.seams[p.r][q.r], b.s.seams[p.s][q.s]}
}

// reached returns all pairs that trees of any size have.
func (b both) reached() []pair {
	var reached []pair
	known := map[pair]bool{}
	add := func(p pair) {
		if !known[p] {
			known[p] = true
			reached = append(reached, p)
		}
	}
	add(b.leaf('x'))
	add(b.leaf('y'))
	for i := 0; i < len(reached); i++ {
		p := reached[i]
		add(b.fold(p))
		for _, q := range reached[:i+1] {
			add(b.seam(p, q))
			add(b.seam(q, p))
		}
	}
	return reached
}

// first returns the first tree with a wanted pair.
func (b both) first(wanted func(pair) bool) (string, api.Errno) {
	f := firsts{both: b, known: map[pair]bool{}, layers: []map[pair]string{nil}}
	for range api.MaxTree {
		tree := ""
		for p, text := range f.grow() {
			if wanted(p) && (tree == "" || text < tree) {
				tree = text
			}
		}
		if tree != "" {
			return tree, api.OK
		}
	}
	if slices.ContainsFunc(b.reached(), wanted) {
		return "", api.ErrFull
	}
	return "", api.ErrNone
}

// firsts finds the first tree of each pair, size by size. The parts of such a tree are the first trees of their pairs: with earlier ones in their places the tree would be earlier itself, as no text of a tree is the beginning of another one.
type firsts struct {
	both
	known  map[pair]bool
	layers []map[pair]string // for each size, the pairs whose first trees have this size
}

// grow adds the first trees of the next size, and returns them.
func (f *firsts) grow() map[pair]string {
	layer := map[pair]string{}
	offer := func(p pair, texts ...string) {
		if f.known[p] {
			return
		}
		text := strings.Join(texts, "")
		if best, ok := layer[p]; !ok || text < best {
			layer[p] = text
		}
	}
	parts := len(f.layers) - 1 // the size of all parts of such a tree together
	if parts == 0 {
		offer(f.leaf('x'), "x")
		offer(f.leaf('y'), "y")
	}
	for p, text := range f.layers[parts] {
		offer(f.fold(p), "f(", text, ")")
	}
	for size := range parts {
		for p, left := range f.layers[size] {
			for q, right := range f.layers[parts-size] {
				offer(f.seam(p, q), "g(", left, ",", right, ")")
			}
		}
	}
	for p := range layer {
		f.known[p] = true
	}
	f.layers = append(f.layers, layer)
	return layer
}
