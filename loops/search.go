package loops

import "ticking/api"

// pair is two positions: a node, and another one of which it may be a subtype.
type pair = [2]int

// verdict is what the kinds of a pair alone say about it.
type verdict int

const (
	settled verdict = iota // it holds
	refuted                // it does not
	open                   // it holds if its parts do
)

func judge(t []api.Type, p pair) verdict {
	left, right := t[p[0]], t[p[1]]
	switch {
	case left.Kind == kindNone || right.Kind == kindAll:
		return settled
	case left.Kind != right.Kind:
		return refuted
	case hasParts(left):
		return open
	}
	return settled
}

// parts returns the pairs to which a and b lead from an open pair.
func parts(t []api.Type, p pair) [2]pair {
	left, right := t[p[0]], t[p[1]]
	a, b := pair{left.A, right.A}, pair{left.B, right.B}
	// What a function takes may be more than it has to take.
	if left.Kind == kindFn {
		a = pair{right.A, left.A}
	}
	return [2]pair{a, b}
}

// search visits the pairs to which first leads, the nearest ones first, until one is refuted.
func search(t []api.Type, first pair) api.Finding {
	paths := map[pair]string{first: ""}
	reached := []pair{first}
	found := api.Finding{Holds: true}
visits:
	for at := 0; at < len(reached); at++ {
		p := reached[at]
		switch judge(t, p) {
		case refuted:
			found = api.Finding{Path: paths[p]}
			break visits
		case settled:
			continue
		}
		for step, next := range parts(t, p) {
			if _, known := paths[next]; !known {
				paths[next] = paths[p] + "ab"[step:step+1]
				reached = append(reached, next)
			}
		}
	}
	if found.Holds {
		found.Pairs = reached
	}
	return found
}

// proves reports whether f is a finding about p.
func proves(t []api.Type, p pair, f api.Finding) bool {
	if f.Holds {
		return f.Path == "" && closes(t, p, f.Pairs)
	}
	return len(f.Pairs) == 0 && refutes(t, p, f.Path)
}

// closes reports whether the pairs are a closed relation with p among them.
func closes(t []api.Type, p pair, pairs []pair) bool {
	if len(pairs) > api.MaxPairs {
		return false
	}
	related := map[pair]bool{}
	for _, q := range pairs {
		if !within(t, q[:]...) {
			return false
		}
		related[q] = true
	}
	for _, q := range pairs {
		if !follows(t, q, related) {
			return false
		}
	}
	return related[p]
}

// follows reports whether the pair holds if all related pairs do.
func follows(t []api.Type, p pair, related map[pair]bool) bool {
	switch judge(t, p) {
	case settled:
		return true
	case refuted:
		return false
	}
	for _, next := range parts(t, p) {
		if !related[next] {
			return false
		}
	}
	return true
}

// refutes reports whether the path leads from p to a refuted pair.
func refutes(t []api.Type, p pair, path string) bool {
	for at := range len(path) {
		if judge(t, p) != open {
			return false
		}
		next := parts(t, p)
		switch path[at] {
		case 'a':
			p = next[0]
		case 'b':
			p = next[1]
		default:
			return false
		}
	}
	return judge(t, p) == refuted
}
