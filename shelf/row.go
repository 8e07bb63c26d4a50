package shelf

import "slices"

// row is the orders of a row, each with a number, and the ways between them.
type row struct {
	orders  []order
	numbers map[order]int
	next    [][]int // for each order, and each position but the last: the order after the exchange of this position and the one behind it
}

// start is the number of the order with which a row begins.
const start = 0

// layOut finds all orders of m rolls by exchanges, beginning with the first.
func layOut(m int) *row {
	r := &row{numbers: map[order]int{}}
	r.number(firstOrder())
	for at := start; at < len(r.orders); at++ {
		next := make([]int, m-1)
		for p := range next {
			exchanged := r.orders[at].moved(p+1, p)
			next[p] = r.number(exchanged)
		}
		r.next = append(r.next, next)
	}
	return r
}

// number returns the number of the order, a new one if it has none yet.
func (r *row) number(o order) int {
	number, known := r.numbers[o]
	if !known {
		number = len(r.orders)
		r.numbers[o] = number
		r.orders = append(r.orders, o)
	}
	return number
}

// rest returns for each request, and for what comes after the last one, the smallest cost from there on, by the order in which the row then is.
func (r *row) rest(requests []int) [][]int {
	rest := make([][]int, len(requests)+1)
	rest[len(requests)] = make([]int, len(r.orders))
	for i, roll := range slices.Backward(requests) {
		rest[i] = make([]int, len(r.orders))
		for number := range r.orders {
			rest[i][number] = r.served(number, roll, rest[i+1])
		}
		r.lower(rest[i])
	}
	return rest
}

// served returns the cost of serving the roll in this order, and of all that comes after it.
func (r *row) served(number, roll int, after []int) int {
	return r.orders[number].place(roll) + 1 + after[r.forward(number, roll, after)]
}

// forward returns the order into which the roll is best moved without cost.
func (r *row) forward(number, roll int, after []int) int {
	best := number
	for at := r.orders[number].place(roll); at > 0; at-- {
		number = r.next[number][at-1]
		if after[number] < after[best] {
			best = number
		}
	}
	return best
}

// lower reduces each cost to the one that another order has, and the paid exchanges which lead there.
func (r *row) lower(costs []int) {
	for changed := true; changed; {
		changed = false
		for number, next := range r.next {
			for _, other := range next {
				if costs[other]+1 < costs[number] {
					costs[number] = costs[other] + 1
					changed = true
				}
			}
		}
	}
}

// follow returns the orders in which the requests are served at the smallest cost.
func (r *row) follow(requests []int, rest [][]int) []int {
	var served []int
	at := start
	for i, roll := range requests {
		// As long as it is too dear to serve the roll here, a paid exchange leads to an order that is cheaper by 1.
		for r.served(at, roll, rest[i+1]) > rest[i][at] {
			at = r.cheapest(at, rest[i])
		}
		served = append(served, at)
		at = r.forward(at, roll, rest[i+1])
	}
	return served
}

// cheapest returns the order with the smallest cost among those to which one exchange leads.
func (r *row) cheapest(number int, costs []int) int {
	best := number
	for _, other := range r.next[number] {
		if costs[other] < costs[best] {
			best = other
		}
	}
	return best
}
