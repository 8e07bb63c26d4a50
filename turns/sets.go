package turns

import (
	"slices"

	"ticking/api"
)

// lengths tells the length of a sequence of sets of the numbers 1 to n, by n and, if all its sets have the same size, by this size.
type lengths func(n, size int) int

// allSets are the lengths of the sequences S(n), whose sets have any size.
func allSets(n, _ int) int { return 1 << n }

// setsOfSize returns the lengths of the sequences C(n, size).
func setsOfSize() lengths {
	var table [api.MaxChoice + 1][api.MaxChoice + 1]int
	table[0][0] = 1
	for n := range api.MaxChoice {
		table[n+1][0] = 1
		for size := range n + 1 {
			table[n+1][size+1] = table[n][size+1] + table[n][size]
		}
	}
	return func(n, size int) int { return table[n][size] }
}

// isSet reports whether the list contains numbers from 1 to n, ascending.
func isSet(n int, list []int) bool {
	before := 0
	for _, x := range list {
		if !isBetween(x, before+1, n) {
			return false
		}
		before = x
	}
	return true
}

// setIn returns the set at the position of the sequence of this length. The sequence begins with the sets without n. Those with it follow in reverse order: counted from the end of the whole, they are where the sets without n that they come from are in their sequence.
func setIn(length lengths, n, size, at int) []int {
	var set []int
	for x := range down(n) {
		if at < length(x-1, size) {
			continue
		}
		at = direction(length(x, size), true)(at)
		size--
		set = append(set, x)
	}
	slices.Reverse(set)
	return set
}

func placeOfSet(length lengths, set []int) int {
	at := 0
	for i, x := range set {
		at = direction(length(x, i+1), true)(at)
	}
	return at
}
