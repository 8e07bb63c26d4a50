package shunt_test

import (
	"math"
	"math/rand"
	"slices"
	"testing"

	"ticking/api"
	"ticking/shunt"
)

// hasBlock looks at all three positions of an order.
func hasBlock(order []int) bool {
	for a := range order {
		for b := range order {
			for c := range order {
				if blockIsRight(order, []int{a, b, c}) {
					return true
				}
			}
		}
	}
	return false
}

func TestCountOfAllSmallOrders(t *testing.T) {
	for n := range 9 {
		k := 0
		for order := range orders(n) {
			rank, err := shunt.Rank(order)
			if hasBlock(order) {
				if rank != 0 || err != api.ErrNone {
					t.Fatalf("Rank(%v) = %d, %d", order, rank, err)
				}
				continue
			}
			if rank != k || err != api.OK {
				t.Fatalf("Rank(%v) = %d, %d", order, rank, err)
			}
			if got, err := shunt.Sortable(n, k); !slices.Equal(got, order) || err != api.OK {
				t.Fatalf("Sortable(%d, %d) = %v, %d", n, k, got, err)
			}
			k++
		}
		if got, err := shunt.Count(n); got != k || err != api.OK {
			t.Errorf("Count(%d) = %d, %d", n, got, err)
		}
		checkOutside(t, n, k)
	}
}

func checkOutside(t *testing.T, n, count int) {
	t.Helper()
	for _, k := range []int{-1, count, count + 1, math.MinInt, math.MaxInt} {
		if got, err := shunt.Sortable(n, k); len(got) > 0 || err != api.ErrArg {
			t.Errorf("Sortable(%d, %d) = %v, %d", n, k, got, err)
		}
	}
}

func TestCountExamples(t *testing.T) {
	if n, err := shunt.Count(4); n != 14 || err != api.OK {
		t.Errorf("Count = %d, %d", n, err)
	}
	if order, err := shunt.Sortable(3, 0); !slices.Equal(order, []int{1, 2, 3}) || err != api.OK {
		t.Errorf("Sortable = %v, %d", order, err)
	}
	if n, err := shunt.Rank([]int{3, 2, 1}); n != 4 || err != api.OK {
		t.Errorf("Rank = %d, %d", n, err)
	}
}

func TestCountOfManyItems(t *testing.T) {
	// Each of these numbers is the one before it times (4n - 2) / (n + 1).
	wanted := 1
	for n := 1; n <= 30; n++ {
		wanted = wanted * (4*n - 2) / (n + 1)
		if got, err := shunt.Count(n); got != wanted || err != api.OK {
			t.Errorf("Count(%d) = %d, %d", n, got, err)
		}
		checkOutside(t, n, wanted)
		if order, err := shunt.Sortable(n, 0); !slices.Equal(order, ascending(n)) || err != api.OK {
			t.Errorf("Sortable(%d, 0) = %v, %d", n, order, err)
		}
		if order, err := shunt.Sortable(n, wanted-1); !slices.Equal(order, descending(n)) || err != api.OK {
			t.Errorf("the last order of %d items = %v, %d", n, order, err)
		}
	}
}

func TestCountOutsideTheLimit(t *testing.T) {
	for _, n := range []int{-1, 31, math.MinInt, math.MaxInt} {
		if got, err := shunt.Count(n); got != 0 || err != api.ErrArg {
			t.Errorf("Count(%d) = %d, %d", n, got, err)
		}
		if got, err := shunt.Sortable(n, 0); len(got) > 0 || err != api.ErrArg {
			t.Errorf("Sortable(%d, 0) = %v, %d", n, got, err)
		}
	}
	blocked := ascending(31)
	blocked[0], blocked[1], blocked[2] = 2, 3, 1
	for _, order := range [][]int{ascending(31), ascending(60), blocked} {
		if got, err := shunt.Rank(order); got != 0 || err != api.ErrArg {
			t.Errorf("Rank of %d items = %d, %d", len(order), got, err)
		}
	}
	if got, err := shunt.Rank(blocked[:30]); got != 0 || err != api.ErrNone {
		t.Errorf("Rank of a blocked order = %d, %d", got, err)
	}
	if got, err := shunt.Rank(nil); got != 0 || err != api.OK {
		t.Errorf("Rank of nothing = %d, %d", got, err)
	}
}

func TestRankTurnsSortableBack(t *testing.T) {
	r := rand.New(rand.NewSource(28))
	for range 2000 {
		n := 9 + r.Intn(22)
		count, _ := shunt.Count(n)
		k := r.Intn(count - 1)
		order, err := shunt.Sortable(n, k)
		if rank, fault := shunt.Rank(order); rank != k || err != api.OK || fault != api.OK {
			t.Fatalf("Sortable(%d, %d) = %v, %d with rank %d, %d", n, k, order, err, rank, fault)
		}
		if hasBlock(order) {
			t.Fatalf("Sortable(%d, %d) = %v", n, k, order)
		}
		if next, _ := shunt.Sortable(n, k+1); slices.Compare(order, next) >= 0 {
			t.Fatalf("Sortable(%d, %d) = %v comes before %v", n, k+1, next, order)
		}
	}
}
