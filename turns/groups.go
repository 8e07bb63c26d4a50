package turns

import "ticking/api"

// ways are the numbers of ways to group the things that are left, by how many they are, and how many groups there are already.
type ways [api.MaxGroup + 1][api.MaxGroup + 1]int

// continuations counts as far as there are not too many things and groups together: the next thing belongs to a group that is there, or begins one.
func continuations() ways {
	var w ways
	for groups := range w[0] {
		w[0][groups] = 1
	}
	for left := range api.MaxGroup {
		for groups := range api.MaxGroup - left {
			w[left+1][groups] = groups*w[left][groups] + w[left][groups+1]
		}
	}
	return w
}

// isGrouping reports whether each number is at most one greater than the greatest one before it.
func isGrouping(list []int) bool {
	if len(list) > api.MaxGroup {
		return false
	}
	groups := 0
	for _, group := range list {
		if !isBetween(group, 0, groups) {
			return false
		}
		groups = max(groups, group+1)
	}
	return true
}

func groupingIn(n, at int) []int {
	w := continuations()
	groups := 0
	var list []int
	for left := range down(n) {
		each := w[left-1][groups] // the groupings with this beginning, and the same one of the groups that are there
		group := min(at/each, groups)
		at -= group * each
		list = append(list, group)
		groups = max(groups, group+1)
	}
	return list
}

func placeOfGrouping(list []int) int {
	w := continuations()
	groups, at := 0, 0
	for i, group := range list {
		at += group * w[len(list)-1-i][groups]
		groups = max(groups, group+1)
	}
	return at
}
