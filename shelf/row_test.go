package shelf_test

import (
	"math"
	"math/rand"
	"slices"
	"testing"

	"ticking/api"
	"ticking/shelf"
)

// allOrders lists the orders of m rolls.
func allOrders(m int) [][]int {
	if m == 0 {
		return [][]int{nil}
	}
	var all [][]int
	for _, o := range allOrders(m - 1) {
		for at := range m {
			all = append(all, slices.Insert(slices.Clone(o), at, m-1))
		}
	}
	return all
}

func code(o []int) int {
	n := 0
	for _, roll := range o {
		n = n*10 + roll
	}
	return n
}

// exchangesFrom follows the document: how many exchanges of two adjacent rolls lead from an order to each other one.
func exchangesFrom(o []int) map[int]int {
	count := map[int]int{code(o): 0}
	for next := [][]int{o}; len(next) > 0; next = next[1:] {
		for p := range len(o) - 1 {
			other := slices.Clone(next[0])
			other[p], other[p+1] = other[p+1], other[p]
			if _, ok := count[code(other)]; !ok {
				count[code(other)] = count[code(next[0])] + 1
				next = append(next, other)
			}
		}
	}
	return count
}

// lanes are all orders of m rolls, and the numbers of exchanges between them.
type lanes struct {
	m      int
	orders [][]int
	count  map[int]map[int]int
}

func lay(m int) lanes {
	l := lanes{m, allOrders(m), map[int]map[int]int{}}
	for _, o := range l.orders {
		l.count[code(o)] = exchangesFrom(o)
	}
	return l
}

func first(m int) []int {
	var o []int
	for roll := range m {
		o = append(o, roll)
	}
	return o
}

// after lists the orders into which the requested roll may have been moved.
func after(o []int, roll int) [][]int {
	at := slices.Index(o, roll)
	list := [][]int{o}
	for to := range at {
		list = append(list, slices.Insert(slices.Delete(slices.Clone(o), at, at+1), to, roll))
	}
	return list
}

// costOf follows the document: the cost of a history.
func (l lanes) costOf(requests []int, history [][]int) int {
	cost := 0
	from := [][]int{first(l.m)}
	for i, roll := range requests {
		paid := math.MaxInt
		for _, o := range from {
			paid = min(paid, l.count[code(o)][code(history[i])])
		}
		cost += paid + slices.Index(history[i], roll) + 1
		from = after(history[i], roll)
	}
	return cost
}

// smallest returns the smallest cost of a history, by the cost of reaching each order, from the first request on.
func (l lanes) smallest(requests []int) int {
	costs := map[int]int{code(first(l.m)): 0}
	for _, roll := range requests {
		served := map[int]int{}
		for _, o := range l.orders {
			best := math.MaxInt
			for from, cost := range costs {
				best = min(best, cost+l.count[from][code(o)])
			}
			for _, moved := range after(o, roll) {
				cost := best + slices.Index(o, roll) + 1
				if old, ok := served[code(moved)]; !ok || cost < old {
					served[code(moved)] = cost
				}
			}
		}
		costs = served
	}
	least := math.MaxInt
	for _, cost := range costs {
		least = min(least, cost)
	}
	return least
}

// someRolls makes random requests for the rolls of a row: all kinds, or mostly the last rolls, or in runs.
func someRolls(x *rand.Rand, count, m int) []int {
	list := numbers(x, count, m)
	kind := x.Intn(4)
	for i := range list {
		switch {
		case kind == 1 && x.Intn(3) > 0:
			list[i] = m - 1 - x.Intn(min(m, 2))
		case kind == 2 && i > 0 && x.Intn(3) > 0:
			list[i] = list[i-1]
		case kind == 3:
			list[i] = (m - 1 - i%m + x.Intn(2)) % m
		}
	}
	return list
}

func TestRowExample(t *testing.T) {
	requests := []int{2, 2, 2}
	if n, o, e := shelf.Front(3, requests); n != 5 || !slices.Equal(o, []int{2, 0, 1}) || e != api.OK {
		t.Errorf("Front = %d, %v, %d", n, o, e)
	}
	if n, h, e := shelf.Ideal(3, requests); n != 5 || e != api.OK || lay(3).costOf(requests, h) != 5 {
		t.Errorf("Ideal = %d, %v, %d", n, h, e)
	}
	for _, h := range [][][]int{{{0, 1, 2}, {2, 0, 1}, {2, 0, 1}}, {{2, 0, 1}, {2, 0, 1}, {2, 0, 1}}} {
		if n, e := shelf.Cost(3, requests, h); n != 5 || e != api.OK {
			t.Errorf("Cost(%v) = %d, %d", h, n, e)
		}
	}
}

// P8.3: Front does as it says.
func TestFront(t *testing.T) {
	x := rand.New(rand.NewSource(21))
	for range 2000 {
		m := 1 + x.Intn(6)
		requests := someRolls(x, x.Intn(61), m)
		cost := 0
		o := first(m)
		for _, roll := range requests {
			cost += slices.Index(o, roll) + 1
			o = append([]int{roll}, slices.DeleteFunc(o, func(r int) bool { return r == roll })...)
		}
		if n, last, e := shelf.Front(m, requests); n != cost || !slices.Equal(last, o) || e != api.OK {
			t.Fatalf("Front(%d, %v) = %d, %v, %d, not %d, %v", m, requests, n, last, e, cost, o)
		}
	}
	if n, last, e := shelf.Front(4, nil); n != 0 || !slices.Equal(last, []int{0, 1, 2, 3}) || e != api.OK {
		t.Errorf("Front without requests = %d, %v, %d", n, last, e)
	}
}

// P8.3 and P8.4: the costs of all histories for a few requests, none of which is less than Ideal, or half of Front.
func TestAllHistories(t *testing.T) {
	for i, most := range []int{5, 5, 4, 2} {
		m := i + 1
		l := lay(m)
		for _, requests := range smallRequests(most, m) {
			least := math.MaxInt
			history := make([][]int, len(requests))
			for _, picks := range allLists(len(requests), 0, len(l.orders)-1) {
				for at, pick := range picks {
					history[at] = l.orders[pick]
				}
				want := l.costOf(requests, history)
				least = min(least, want)
				if n, e := shelf.Cost(m, requests, history); n != want || e != api.OK {
					t.Fatalf("Cost(%d, %v, %v) = %d, %d, not %d", m, requests, history, n, e, want)
				}
			}
			checkIdeal(t, l, requests, least)
		}
	}
}

// checkIdeal compares Ideal with the smallest cost, and Front with both.
func checkIdeal(t *testing.T, l lanes, requests []int, least int) {
	t.Helper()
	n, h, e := shelf.Ideal(l.m, requests)
	if n != least || e != api.OK || len(h) != len(requests) {
		t.Fatalf("Ideal(%d, %v) = %d, %v, %d, not %d", l.m, requests, n, h, e, least)
	}
	for _, o := range h {
		if !slices.Equal(slices.Sorted(slices.Values(o)), first(l.m)) {
			t.Fatalf("Ideal(%d, %v): %v is no order", l.m, requests, o)
		}
	}
	if cost, e := shelf.Cost(l.m, requests, h); cost != least || e != api.OK || l.costOf(requests, h) != least {
		t.Fatalf("Cost(%d, %v, %v) = %d, %d, not %d", l.m, requests, h, cost, e, least)
	}
	if front, _, _ := shelf.Front(l.m, requests); front < least || front > 2*least {
		t.Fatalf("Front(%d, %v) = %d, Ideal %d", l.m, requests, front, least)
	}
}

// P8.3 and P8.4 for rows of all lengths.
func TestIdeal(t *testing.T) {
	x := rand.New(rand.NewSource(22))
	for i, count := range []int{30, 300, 300, 100, 12} {
		m := i + 1
		l := lay(m)
		for range count {
			requests := someRolls(x, x.Intn(61), m)
			checkIdeal(t, l, requests, l.smallest(requests))
		}
	}
	l := lay(6)
	for _, count := range []int{4, 7, 9} {
		requests := someRolls(x, count, 6)
		checkIdeal(t, l, requests, l.smallest(requests))
	}
}

// It can be cheaper to pay: roll 0 is first moved to the end, for 2; without paid exchanges nothing costs less than 9.
func TestIdealPays(t *testing.T) {
	requests := []int{2, 1, 1, 2}
	if n, h, e := shelf.Ideal(3, requests); n != 8 || e != api.OK || lay(3).costOf(requests, h) != 8 {
		t.Errorf("Ideal = %d, %v, %d", n, h, e)
	}
	if n, e := shelf.Cost(3, requests, slices.Repeat([][]int{{1, 2, 0}}, 4)); n != 8 || e != api.OK {
		t.Errorf("Cost = %d, %d", n, e)
	}
}

// P8.3 and P8.4: the costs of random histories.
func TestCost(t *testing.T) {
	x := rand.New(rand.NewSource(23))
	for m := 1; m <= 6; m++ {
		l := lay(m)
		for range 60 {
			requests := someRolls(x, x.Intn(61), m)
			least, h, _ := shelf.Ideal(m, requests)
			front, _, _ := shelf.Front(m, requests)
			for often := range 4 {
				for i := range h {
					if x.Intn(4) < often {
						h[i] = slices.Clone(l.orders[x.Intn(len(l.orders))])
					}
				}
				want := l.costOf(requests, h)
				if n, e := shelf.Cost(m, requests, h); n != want || e != api.OK || n < least || 2*n < front {
					t.Fatalf("Cost(%d, %v, %v) = %d, %d, not %d; Ideal %d, Front %d", m, requests, h, n, e, want, least, front)
				}
			}
		}
	}
}

func TestCostNamed(t *testing.T) {
	for _, c := range []struct {
		requests []int
		history  [][]int
		cost     int
	}{
		{nil, nil, 0},
		{[]int{0}, [][]int{{0, 1, 2}}, 1},
		{[]int{0}, [][]int{{2, 1, 0}}, 3 + 3},
		// The requested roll is moved without cost, forward only, and nothing else is.
		{[]int{2, 2}, [][]int{{0, 1, 2}, {0, 2, 1}}, 3 + 2},
		{[]int{2, 2}, [][]int{{0, 1, 2}, {2, 1, 0}}, 3 + 1 + 1},
		{[]int{0, 0}, [][]int{{0, 1, 2}, {1, 0, 2}}, 1 + 1 + 2},
		{[]int{1, 2}, [][]int{{0, 1, 2}, {2, 0, 1}}, 2 + 2 + 1},
		{[]int{1, 2}, [][]int{{0, 1, 2}, {1, 2, 0}}, 2 + 1 + 2},
		// It is moved after it was served, so that the first order is paid for.
		{[]int{2}, [][]int{{2, 0, 1}}, 2 + 1},
		// Nothing is paid after the last request, nor for the move that is not needed.
		{[]int{2, 1}, [][]int{{0, 1, 2}, {0, 1, 2}}, 3 + 2},
	} {
		if n, e := shelf.Cost(3, c.requests, c.history); n != c.cost || e != api.OK {
			t.Errorf("Cost(%v, %v) = %d, %d", c.requests, c.history, n, e)
		}
	}
}

// P8.3: Turned counts the pairs one by one, and so does whoever exchanges rolls.
func TestTurned(t *testing.T) {
	for m := 1; m <= 5; m++ {
		l := lay(m)
		for _, a := range l.orders {
			for _, b := range l.orders {
				pairs := 0
				for x := range m {
					for y := range x {
						if slices.Index(a, x) < slices.Index(a, y) != (slices.Index(b, x) < slices.Index(b, y)) {
							pairs++
						}
					}
				}
				if n, e := shelf.Turned(a, b); n != pairs || n != l.count[code(a)][code(b)] || e != api.OK {
					t.Fatalf("Turned(%v, %v) = %d, %d, not %d", a, b, n, e, pairs)
				}
			}
		}
	}
	if n, e := shelf.Turned([]int{0, 1, 2, 3, 4, 5}, []int{5, 4, 3, 2, 1, 0}); n != 15 || e != api.OK {
		t.Errorf("Turned = %d, %d", n, e)
	}
}

func TestTurnedRefuses(t *testing.T) {
	right := []int{1, 0, 2}
	wrong := [][]int{nil, {}, {0}, {1, 0}, {0, 1, 2, 3}, {0, 0, 1}, {1, 2, 3}, {0, 1, 1}, {0, 1, 3}, {-1, 0, 1}, {0, 1, math.MaxInt}, {math.MinInt, 0, 1}, {2, 1, 2}, make([]int, 1000)}
	for _, list := range wrong {
		for _, pair := range [][2][]int{{right, list}, {list, right}} {
			if n, e := shelf.Turned(pair[0], pair[1]); n != 0 || e != api.ErrArg {
				t.Errorf("Turned(%v, %v) = %d, %d", pair[0], pair[1], n, e)
			}
		}
	}
	for _, list := range [][]int{nil, {}, {1}, {1, 1}, {0, 0, 1}, {0, 1, 2, 3, 4, 5, 6}, {0, 1, 2, 3, 4, 6}, make([]int, 1000)} {
		if n, e := shelf.Turned(list, slices.Clone(list)); n != 0 || e != api.ErrArg {
			t.Errorf("Turned(%v, %v) = %d, %d", list, list, n, e)
		}
	}
}

// checkRowRefused tests that every function of the row returns ErrArg, and nothing else, whatever the history is.
func checkRowRefused(t *testing.T, m int, requests []int) {
	t.Helper()
	if n, o, e := shelf.Front(m, requests); n != 0 || len(o) != 0 || e != api.ErrArg {
		t.Errorf("Front(%d, %v) = %d, %v, %d", m, requests, n, o, e)
	}
	if n, h, e := shelf.Ideal(m, requests); n != 0 || len(h) != 0 || e != api.ErrArg {
		t.Errorf("Ideal(%d, %v) = %d, %v, %d", m, requests, n, h, e)
	}
	for _, h := range [][][]int{nil, {nil}, {{0, 1, 2}}, {{0, 1, 2}, {0, 1, 2}, {0, 1, 2}}, slices.Repeat([][]int{{0}}, len(requests))} {
		if n, e := shelf.Cost(m, requests, h); n != 0 || e != api.ErrArg {
			t.Errorf("Cost(%d, %v, %v) = %d, %d", m, requests, h, n, e)
		}
	}
}

func TestRowRefuses(t *testing.T) {
	for _, m := range []int{0, -1, 7, 8, math.MinInt, math.MaxInt} {
		for _, requests := range [][]int{nil, {}, {0}, {0, 0, 0}} {
			checkRowRefused(t, m, requests)
		}
	}
	for m := 1; m <= 6; m++ {
		for _, roll := range []int{-1, m, m + 1, math.MinInt, math.MaxInt} {
			for at := range 3 {
				requests := make([]int, 3)
				requests[at] = roll
				checkRowRefused(t, m, requests)
			}
		}
		for _, count := range []int{61, 200, 1000} {
			checkRowRefused(t, m, make([]int, count))
		}
	}
}

// Cost takes no other histories than those with an order for each request.
func TestCostRefuses(t *testing.T) {
	for _, wrong := range [][]int{nil, {}, {0, 1}, {0, 1, 2, 3}, {0, 1, 1}, {0, 0, 0}, {1, 2, 3}, {0, 1, -1}, {0, 1, math.MaxInt}, {math.MinInt, 1, 2}, make([]int, 1000)} {
		for at := range 3 {
			history := [][]int{{0, 1, 2}, {1, 0, 2}, {1, 2, 0}}
			history[at] = wrong
			if n, e := shelf.Cost(3, []int{1, 1, 2}, history); n != 0 || e != api.ErrAnswer {
				t.Errorf("Cost with %v at %d = %d, %d", wrong, at, n, e)
			}
		}
	}
	for _, count := range []int{0, 1, 2, 4, 1000} {
		if n, e := shelf.Cost(3, []int{1, 1, 2}, slices.Repeat([][]int{{0, 1, 2}}, count)); n != 0 || e != api.ErrAnswer {
			t.Errorf("Cost with %d orders = %d, %d", count, n, e)
		}
	}
	if n, e := shelf.Cost(3, nil, [][]int{{0, 1, 2}}); n != 0 || e != api.ErrAnswer {
		t.Errorf("Cost without requests = %d, %d", n, e)
	}
}

// As many rolls and requests as are allowed, and as few.
func TestRowLimits(t *testing.T) {
	x := rand.New(rand.NewSource(24))
	l := lay(6)
	for range 40 {
		requests := someRolls(x, 60, 6)
		least, h, e := shelf.Ideal(6, requests)
		if cost, err := shelf.Cost(6, requests, h); e != api.OK || err != api.OK || cost != least || l.costOf(requests, h) != least {
			t.Fatalf("Ideal(6, %v) = %d, %v, %d", requests, least, h, e)
		}
		if front, _, e := shelf.Front(6, requests); front < least || front > 2*least || e != api.OK {
			t.Fatalf("Front(6, %v) = %d, %d, Ideal %d", requests, front, e, least)
		}
	}
	for m := 1; m <= 6; m++ {
		if n, h, e := shelf.Ideal(m, nil); n != 0 || len(h) != 0 || e != api.OK {
			t.Errorf("Ideal(%d) without requests = %d, %v, %d", m, n, h, e)
		}
		if n, e := shelf.Cost(m, nil, nil); n != 0 || e != api.OK {
			t.Errorf("Cost(%d) without requests = %d, %d", m, n, e)
		}
		requests := make([]int, 60)
		if n, h, e := shelf.Ideal(m, requests); n != 60 || len(h) != 60 || e != api.OK {
			t.Errorf("Ideal(%d) of the first roll = %d, %v, %d", m, n, h, e)
		}
		if n, o, e := shelf.Front(m, requests); n != 60 || !slices.Equal(o, first(m)) || e != api.OK {
			t.Errorf("Front(%d) of the first roll = %d, %v, %d", m, n, o, e)
		}
	}
}
