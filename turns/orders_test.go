package turns_test

import (
	"fmt"
	"math"
	"math/big"
	"math/rand"
	"slices"
	"testing"

	"ticking/api"
	"ticking/turns"
)

// inserting follows the document: the orders in which n is inserted into the order at the position r.
func inserting(order []int, n, r int) [][]int {
	var all [][]int
	for at := range n {
		all = append(all, slices.Insert(slices.Clone(order), at, n))
	}
	if r%2 == 0 {
		return reversed(all)
	}
	return all
}

// orders follows the document: P(n).
func orders(n int) [][]int {
	if n == 0 {
		return [][]int{nil}
	}
	var all [][]int
	for r, order := range orders(n - 1) {
		all = append(all, inserting(order, n, r)...)
	}
	return all
}

// orderAt follows the document for one position of P(n).
func orderAt(n, at int) []int {
	if n == 0 {
		return nil
	}
	r := at / n
	return inserting(orderAt(n-1, r), n, r)[at-r*n]
}

func ordersOf(n int) (at, place) {
	return func(at int) ([]int, api.Errno) { return turns.Order(n, at) }, turns.OrderAt
}

func factorial(n int) int { return int(new(big.Int).MulRange(1, int64(n)).Int64()) }

// exchange returns the order after the exchange of two numbers.
func exchange(order []int, positions [2]int) []int {
	other := slices.Clone(order)
	other[positions[0]], other[positions[1]] = other[positions[1]], other[positions[0]]
	return other
}

// checkTurn tests that the exchange of two adjacent numbers leads from the order to the next one, or that there is none.
func checkTurn(t *testing.T, order, next []int) {
	t.Helper()
	before := slices.Clone(order)
	exchanged, e := turns.Turn(order)
	if e != api.OK || !slices.Equal(order, before) {
		t.Fatalf("Turn(%v) = %v, %d, leaves %v", before, exchanged, e, order)
	}
	if next == nil {
		if exchanged != [2]int{-1, -1} {
			t.Fatalf("Turn(%v) = %v", order, exchanged)
		}
		return
	}
	if exchanged[0] < 0 || exchanged[1] != exchanged[0]+1 || exchanged[1] >= len(order) {
		t.Fatalf("Turn(%v) = %v", order, exchanged)
	}
	if got := exchange(order, exchanged); !slices.Equal(got, next) {
		t.Fatalf("Turn(%v) = %v: this leads to %v, not to %v", order, exchanged, got, next)
	}
}

// P10.1, P10.2, P10.4 and P10.5: all orders of the first numbers. Turn shows that adjacent ones differ by an exchange.
func TestOrders(t *testing.T) {
	for n := range 9 {
		sequence := orders(n)
		at, place := ordersOf(n)
		checkSequence(t, fmt.Sprintf("P(%d)", n), sequence, at, place)
		for i, order := range sequence {
			var next []int
			if i+1 < len(sequence) {
				next = sequence[i+1]
			}
			checkTurn(t, order, next)
		}
	}
}

// P10.1, P10.2, P10.4 and P10.5 up to the limit.
func TestLargeOrders(t *testing.T) {
	x := rand.New(rand.NewSource(33))
	for n := range 19 {
		name := fmt.Sprintf("P(%d)", n)
		at, place := ordersOf(n)
		length := factorial(n)
		for range 5 {
			for _, p := range positions(x, length) {
				checkLarge(t, name, p, orderAt(n, p), at, place)
				var next []int
				if p+1 < length {
					next, _ = at(p + 1)
				}
				checkTurn(t, orderAt(n, p), next)
			}
		}
		for _, wrong := range []int{-1, length, length + 1, -length, math.MinInt, math.MaxInt} {
			order, e := at(wrong)
			refuses(t, name, order, 0, e)
		}
	}
	last := append([]int{2, 1}, span(3, 18)...)
	if at, e := turns.OrderAt(last); at != factorial(18)-1 || e != api.OK {
		t.Errorf("OrderAt(%v) = %d, %d", last, at, e)
	}
	checkTurn(t, last, nil)
}

// P10.1: the wrong numbers.
func TestOrderRefuses(t *testing.T) {
	for _, n := range []int{math.MinInt, -2, -1, 19, 20, 21, 25, 66, 1000, math.MaxInt} {
		for _, at := range []int{-1, 0, 1} {
			order, e := turns.Order(n, at)
			refuses(t, fmt.Sprintf("Order(%d, %d)", n, at), order, 0, e)
		}
	}
}

// P10.2, P10.4: all short lists, of which few are orders.
func TestPlacesOfOrders(t *testing.T) {
	for count := range 6 {
		sequence := orders(count)
		lists := allLists(count, -1, count+1)
		checkPlaces(t, fmt.Sprintf("P(%d)", count), sequence, lists, turns.OrderAt)
		for _, list := range lists {
			_, want := turns.OrderAt(list)
			if exchanged, e := turns.Turn(list); e != want || e != api.OK && exchanged != [2]int{} {
				t.Fatalf("Turn(%v) = %v, %d, not %d", list, exchanged, e, want)
			}
		}
	}
}

// P10.2, P10.4: long lists, and those with a wrong number.
func TestOrderAtRefuses(t *testing.T) {
	lists := [][]int{span(1, 19), span(0, 17), span(0, 18), span(2, 18), span(2, 19), make([]int, 18), make([]int, 100000), append(span(1, 17), 17), append(span(1, 18), 18), span(1, 100000)}
	for _, wrong := range []int{math.MinInt, -1, 0, 1, 17, 19, math.MaxInt} {
		lists = append(lists, []int{wrong, 1}, append(span(1, 17), wrong), append([]int{wrong}, span(1, 17)...), append(span(1, 18), wrong))
	}
	for _, list := range lists {
		at, e := turns.OrderAt(list)
		refuses(t, fmt.Sprintf("OrderAt(%v)", list), nil, at, e)
		if exchanged, e := turns.Turn(list); exchanged != [2]int{} || e != api.ErrArg {
			t.Errorf("Turn(%v) = %v, %d", list, exchanged, e)
		}
	}
}
