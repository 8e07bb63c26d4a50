package turns

import (
	"slices"

	"ticking/api"
)

func factorial(n int) int {
	product := 1
	for x := range down(n) {
		product *= x
	}
	return product
}

// isOrder reports whether the list is an order of the numbers from 1 to its length.
func isOrder(list []int) bool {
	if len(list) > api.MaxOrder {
		return false
	}
	var seen [api.MaxOrder + 1]bool
	for _, x := range list {
		if !isBetween(x, 1, len(list)) || seen[x] {
			return false
		}
		seen[x] = true
	}
	return true
}

// inserted returns what turns the count of an order, among those that arise by inserting x into the order of smaller numbers at the position r, into the place of x, and back.
func inserted(x, r int) func(int) int { return direction(x, r%2 == 0) }

func orderIn(n, at int) []int {
	var places [api.MaxOrder + 1]int
	for x := range down(n) {
		count := at % x
		at /= x
		places[x] = inserted(x, at)(count)
	}
	var order []int
	for smaller := range n {
		x := smaller + 1
		order = slices.Insert(order, places[x], x)
	}
	return order
}

func placeOfOrder(order []int) int {
	at := 0
	for smaller := range len(order) {
		x := smaller + 1
		at = at*x + inserted(x, at)(smallerBefore(order, x))
	}
	return at
}

// smallerBefore returns how many smaller numbers the order has before x: the place where x was inserted, since the greater ones came later.
func smallerBefore(order []int, x int) int {
	count := 0
	for _, y := range order[:slices.Index(order, x)] {
		if y < x {
			count++
		}
	}
	return count
}

func turn(order []int) [2]int {
	n := len(order)
	next := placeOfOrder(order) + 1
	if next == factorial(n) {
		return [2]int{-1, -1}
	}
	first := firstDifference(order, orderIn(n, next))
	return [2]int{first, first + 1}
}

// firstDifference returns the first position at which two lists of the same length differ.
func firstDifference(a, b []int) int {
	at := 0
	for a[at] == b[at] {
		at++
	}
	return at
}
