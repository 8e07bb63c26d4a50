package pleat

import "ticking/api"

// set is a set of states: it has the bit 1 << q for each state q.
type set uint

// allSets is the number of sets of states.
const allSets = 1 << api.MaxStates

func setOf(states ...int) set {
	s := set(0)
	for _, state := range states {
		s |= 1 << state
	}
	return s
}

func (s set) has(state int) bool { return s>>state&1 == 1 }

// list returns the states in ascending order.
func (s set) list() []int {
	var states []int
	for state := range api.MaxStates {
		if s.has(state) {
			states = append(states, state)
		}
	}
	return states
}

// machine is a recognizer that knows, from the sets of states that the parts of a tree have, the set of those that the tree has. So it is in one way only, while the rules leave a choice.
type machine struct {
	leaves map[byte]set
	folds  [allSets]set
	seams  [allSets][allSets]set
	final  set
}

// read returns false if r is not a recognizer.
func read(r api.Recognizer) (*machine, bool) {
	if !isRecognizer(r) {
		return nil, false
	}
	m := &machine{leaves: map[byte]set{'x': 0, 'y': 0}, final: setOf(r.Final...)}
	for _, rule := range r.Rules {
		m.add(rule)
	}
	return m, true
}

func isRecognizer(r api.Recognizer) bool {
	if r.States < 1 || r.States > api.MaxStates || len(r.Rules) > api.MaxLeaves {
		return false
	}
	for _, rule := range r.Rules {
		if !isRule(rule, r.States) {
			return false
		}
	}
	for i, state := range r.Final {
		if !isState(state, r.States) || i > 0 && state <= r.Final[i-1] {
			return false
		}
	}
	return true
}

func isRule(rule api.Leaf, states int) bool {
	parts, ok := partsOf(rule.Symbol)
	if !ok || len(rule.From) != parts || !isState(rule.To, states) {
		return false
	}
	for _, state := range rule.From {
		if !isState(state, states) {
			return false
		}
	}
	return true
}

// partsOf returns how many parts a symbol has; false if there is no such symbol.
func partsOf(symbol byte) (int, bool) {
	switch symbol {
	case 'x', 'y':
		return 0, true
	case 'f':
		return 1, true
	case 'g':
		return 2, true
	}
	return 0, false
}

func isState(state, states int) bool { return 0 <= state && state < states }

func (m *machine) add(rule api.Leaf) {
	to := setOf(rule.To)
	switch rule.Symbol {
	case 'f':
		for s := range set(allSets) {
			if s.has(rule.From[0]) {
				m.folds[s] |= to
			}
		}
	case 'g':
		for s := range set(allSets) {
			if s.has(rule.From[0]) {
				m.addSeams(s, rule.From[1], to)
			}
		}
	default:
		m.leaves[rule.Symbol] |= to
	}
}

// addSeams adds the states to to all trees whose left parts have the states left, and whose right parts have the state right.
func (m *machine) addSeams(left set, right int, to set) {
	for s := range set(allSets) {
		if s.has(right) {
			m.seams[left][s] |= to
		}
	}
}

// states returns the states that a tree has.
func (m *machine) states(t tree) set {
	switch t := t.(type) {
	case leaf:
		return m.leaves[t.symbol]
	case fold:
		return m.folds[m.states(t.inner)]
	case seam:
		return m.seams[m.states(t.left)][m.states(t.right)]
	}
	return 0
}

// accepts reports whether one of the states is final.
func (m *machine) accepts(states set) bool { return states&m.final != 0 }

// reached returns all sets of states that trees have.
func (m *machine) reached() []set {
	var reached []set
	for _, p := range (both{m, m}).reached() {
		reached = append(reached, p.r)
	}
	return reached
}

// counts returns, for each size from 0 to n, how many trees have which states.
func (m *machine) counts(n int) []map[set]int {
	counts := make([]map[set]int, n+1)
	for size := range counts {
		counts[size] = m.grown(counts[:size])
	}
	return counts
}

// grown counts the trees that are one symbol greater than the greatest ones in smaller.
func (m *machine) grown(smaller []map[set]int) map[set]int {
	grown := map[set]int{}
	parts := len(smaller) - 1 // the size of all parts of such a tree together
	if parts == 0 {
		for _, states := range m.leaves {
			grown[states]++
		}
	}
	if parts <= 0 {
		return grown
	}
	for states, count := range smaller[parts] {
		grown[m.folds[states]] += count
	}
	for size := range parts {
		for left, some := range smaller[size] {
			for right, others := range smaller[parts-size] {
				grown[m.seams[left][right]] += some * others
			}
		}
	}
	return grown
}
