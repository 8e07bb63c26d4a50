package loops

import "ticking/api"

// refine returns for each node the first one of its class. All nodes begin in one class; two of them stay in one as long as key says the same of them, given the classes so far.
func refine[K comparable](nodes int, key func(node int, classes []int) K) []int {
	classes := make([]int, nodes)
	count := 0
	for {
		firsts := map[K]int{}
		finer := make([]int, nodes)
		for node := range nodes {
			k := key(node, classes)
			if _, known := firsts[k]; !known {
				firsts[k] = node
			}
			finer[node] = firsts[k]
		}
		if len(firsts) == count {
			return finer
		}
		classes, count = finer, len(firsts)
	}
}

// alike returns for each node the first one that stands for the same tree.
func alike(t []api.Type) []int {
	return refine(len(t), func(node int, classes []int) [3]int {
		n := t[node]
		if !hasParts(n) {
			return [3]int{n.Kind}
		}
		return [3]int{n.Kind, classes[n.A], classes[n.B]}
	})
}

// canonical returns canonical types of a node. There may be more nodes than MaxTypes.
func canonical(t []api.Type, first int) []api.Type {
	same := alike(t)
	return unfold(same[first], func(node int, place func(int) int) api.Type {
		n := t[node]
		if !hasParts(n) {
			return n
		}
		a := place(same[n.A])
		b := place(same[n.B])
		return api.Type{Kind: n.Kind, A: a, B: b}
	})
}

// unfold returns the nodes that stand for the key first and for all keys that nodeOf asks the place of, in the order in which it asks for them.
func unfold[K comparable](first K, nodeOf func(key K, place func(K) int) api.Type) []api.Type {
	places := map[K]int{first: 0}
	keys := []K{first}
	place := func(key K) int {
		at, known := places[key]
		if !known {
			at = len(keys)
			places[key] = at
			keys = append(keys, key)
		}
		return at
	}
	var nodes []api.Type
	for at := 0; at < len(keys); at++ {
		node := nodeOf(keys[at], place)
		nodes = append(nodes, node)
	}
	return nodes
}
