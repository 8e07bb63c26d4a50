package pleat

import "slices"

// classes returns a number for each set of states that trees have, equal ones for equivalent trees, and how many numbers there are.
func (m *machine) classes() (map[set]int, int) {
	reached := m.reached()
	classes := map[set]int{}
	for _, s := range reached {
		classes[s] = 0
		if m.accepts(s) {
			classes[s] = 1
		}
	}
	count := 0
	for {
		finer, more := m.refined(reached, classes)
		if more == count {
			return finer, count
		}
		classes, count = finer, more
	}
}

// refined keeps two sets in one class if they were, and if one symbol more around their trees keeps these in one class. It also returns the number of classes.
func (m *machine) refined(reached []set, classes map[set]int) (map[set]int, int) {
	finer := map[set]int{}
	count := 0
	for i, s := range reached {
		finer[s] = slices.IndexFunc(reached, func(t set) bool { return m.alike(s, t, reached, classes) })
		if finer[s] == i {
			count++
		}
	}
	return finer, count
}

func (m *machine) alike(s, t set, reached []set, classes map[set]int) bool {
	if classes[s] != classes[t] || classes[m.folds[s]] != classes[m.folds[t]] {
		return false
	}
	for _, other := range reached {
		if classes[m.seams[s][other]] != classes[m.seams[t][other]] ||
			classes[m.seams[other][s]] != classes[m.seams[other][t]] {
			return false
		}
	}
	return true
}

// firstAlike returns for each tree, of which the states are given, the position of the first one that is equivalent to it.
func (m *machine) firstAlike(sets []set) []int {
	classes, _ := m.classes()
	firsts := map[int]int{}
	var positions []int
	for i, s := range sets {
		class := classes[s]
		if _, ok := firsts[class]; !ok {
			firsts[class] = i
		}
		positions = append(positions, firsts[class])
	}
	return positions
}
