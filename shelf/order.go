package shelf

import (
	"slices"

	"ticking/api"
)

// order is an order of the rolls. Rolls that a shorter row does not have stay at the positions of their numbers.
type order [api.MaxRolls]int

func firstOrder() order {
	var o order
	for roll := range o {
		o[roll] = roll
	}
	return o
}

// orderOf returns the order of m rolls that the list contains, and whether it does.
func orderOf(list []int, m int) (order, bool) {
	if len(list) != m || !allBelow(list, m) {
		return order{}, false
	}
	o := firstOrder()
	var seen [api.MaxRolls]bool
	for at, roll := range list {
		if seen[roll] {
			return order{}, false
		}
		seen[roll] = true
		o[at] = roll
	}
	return o, true
}

// list returns the first m rolls as a list.
func (o order) list(m int) []int { return slices.Clone(o[:m]) }

func (o order) place(roll int) int { return slices.Index(o[:], roll) }

// moved returns the order after the roll at one position has been moved to an earlier one, or left there.
func (o order) moved(from, to int) order {
	roll := o[from]
	copy(o[to+1:from+1], o[to:from])
	o[to] = roll
	return o
}

// choices returns the orders into which the requested roll may be moved without cost, this one included.
func (o order) choices(roll int) []order {
	var list []order
	from := o.place(roll)
	for to := range from + 1 {
		list = append(list, o.moved(from, to))
	}
	return list
}

// turned returns the number of pairs of rolls that are in a different order in a and b. It is also the smallest number of exchanges of adjacent rolls that turn one into the other, for each exchange turns one pair, and while a pair is turned, two adjacent rolls are.
func turned(a, b order) int {
	count := 0
	for second := range a {
		for first := range second {
			if b.place(a[first]) > b.place(a[second]) {
				count++
			}
		}
	}
	return count
}

// exchanges returns the smallest number of exchanges of adjacent rolls that lead to the order from one of the others.
func exchanges(to order, from ...order) int {
	fewest := api.MaxRolls * api.MaxRolls
	for _, o := range from {
		fewest = min(fewest, turned(o, to))
	}
	return fewest
}
