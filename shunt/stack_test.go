package shunt_test

import (
	"math/rand"
	"slices"
	"strings"
	"testing"

	"ticking/api"
	"ticking/shunt"
)

// leaves returns the items as they leave one stack by a plan; false if the plan is none, or finds the stack empty.
func leaves(order []int, plan string) ([]int, bool) {
	if strings.Count(plan, "i") != len(order) || strings.Count(plan, "o") != len(order) || len(plan) != 2*len(order) {
		return nil, false
	}
	var stack, gone []int
	arrived := 0
	for _, step := range plan {
		if step == 'i' {
			stack = append(stack, order[arrived])
			arrived++
			continue
		}
		if len(stack) == 0 {
			return nil, false
		}
		gone = append(gone, stack[len(stack)-1])
		stack = stack[:len(stack)-1]
	}
	return gone, true
}

func planIsRight(order []int, plan string) bool {
	gone, ok := leaves(order, plan)
	return ok && slices.Equal(gone, ascending(len(order)))
}

func blockIsRight(order, block []int) bool {
	if len(block) != 3 {
		return false
	}
	a, b, c := block[0], block[1], block[2]
	return 0 <= a && a < b && b < c && c < len(order) && order[c] < order[a] && order[a] < order[b]
}

// texts returns all strings of n of the letters.
func texts(n int, letters string) []string {
	if n == 0 {
		return []string{""}
	}
	var all []string
	for _, rest := range texts(n-1, letters) {
		for _, letter := range letters {
			all = append(all, rest+string(letter))
		}
	}
	return all
}

func TestStackExamples(t *testing.T) {
	if plan, block, err := shunt.Stack([]int{2, 1, 3}); plan != "iiooio" || len(block) > 0 || err != api.OK {
		t.Errorf("Stack = %q, %v, %d", plan, block, err)
	}
	if plan, block, err := shunt.Stack([]int{2, 3, 1}); plan != "" || !slices.Equal(block, []int{0, 1, 2}) || err != api.OK {
		t.Errorf("Stack = %q, %v, %d", plan, block, err)
	}
	if plan, block, err := shunt.Stack(nil); plan != "" || len(block) > 0 || err != api.OK {
		t.Errorf("Stack of nothing = %q, %v, %d", plan, block, err)
	}
}

func TestStackFindsPlanOrBlockForAllSmallOrders(t *testing.T) {
	for n := range 7 {
		plans := texts(2*n, "io")
		for order := range orders(n) {
			possible := slices.ContainsFunc(plans, func(plan string) bool { return planIsRight(order, plan) })
			plan, block, err := shunt.Stack(order)
			right := possible && planIsRight(order, plan) && len(block) == 0 || !possible && plan == "" && blockIsRight(order, block)
			if !right || err != api.OK {
				t.Fatalf("Stack(%v) = %q, %v, %d", order, plan, block, err)
			}
			if err := shunt.CheckStack(order, plan, block); err != api.OK {
				t.Fatalf("CheckStack(%v, %q, %v): %d", order, plan, block, err)
			}
		}
	}
}

func TestStackOfLongOrders(t *testing.T) {
	r := rand.New(rand.NewSource(21))
	for i := range 600 {
		n := 8 + r.Intn(53)
		order := someOrder(r, n)
		if i%2 == 0 {
			order = nearlySorted(r, n, 3)
		}
		plan, block, err := shunt.Stack(order)
		right := planIsRight(order, plan) && len(block) == 0 || plan == "" && blockIsRight(order, block)
		if !right || err != api.OK {
			t.Fatalf("Stack(%v) = %q, %v, %d", order, plan, block, err)
		}
		if err := shunt.CheckStack(order, plan, block); err != api.OK {
			t.Fatalf("CheckStack(%v, %q, %v): %d", order, plan, block, err)
		}
	}
}

func TestCheckStackAgreesWithTheDefinition(t *testing.T) {
	var plans []string
	for n := range 8 {
		plans = append(plans, texts(n, "io")...)
	}
	plans = append(plans, "x", "ix", "Io", "io\x00", "iio", "iiooi", "iioox", "iixo", "i\xffo", strings.Repeat("i", 100000))
	blocks := slices.Collect(lists(4, -1, 3))
	for n := range 4 {
		for order := range orders(n) {
			for _, plan := range plans {
				for _, block := range [][]int{nil, {}, {0}, {0, 1, 2}, {0, 0, 0}} {
					right := planIsRight(order, plan) && len(block) == 0 || plan == "" && n >= 1 && blockIsRight(order, block)
					if err := shunt.CheckStack(order, plan, block); err != want(right) {
						t.Fatalf("CheckStack(%v, %q, %v): %d", order, plan, block, err)
					}
				}
			}
			for _, block := range blocks {
				for _, plan := range []string{"", "io", "iioo", "iiiooo"} {
					right := planIsRight(order, plan) && len(block) == 0 || plan == "" && n >= 1 && blockIsRight(order, block)
					if err := shunt.CheckStack(order, plan, block); err != want(right) {
						t.Fatalf("CheckStack(%v, %q, %v): %d", order, plan, block, err)
					}
				}
			}
		}
	}
}

func TestCheckStackTakesEveryBlock(t *testing.T) {
	order := []int{3, 5, 2, 4, 1}
	for block := range lists(3, -1, 5) {
		if err := shunt.CheckStack(order, "", block); err != want(blockIsRight(order, block)) {
			t.Errorf("CheckStack with %v: %d", block, err)
		}
	}
}

// passed follows the rule that a pass moves the greatest item behind what the passes of both sides give.
func passed(order []int) []int {
	if len(order) == 0 {
		return nil
	}
	greatest := slices.Max(order)
	at := slices.Index(order, greatest)
	return append(append(passed(order[:at]), passed(order[at+1:])...), greatest)
}

func TestPass(t *testing.T) {
	if gone, err := shunt.Pass([]int{2, 3, 1}); !slices.Equal(gone, []int{2, 1, 3}) || err != api.OK {
		t.Errorf("Pass = %v, %d", gone, err)
	}
	if gone, err := shunt.Pass(nil); len(gone) > 0 || err != api.OK {
		t.Errorf("Pass of nothing = %v, %d", gone, err)
	}
	r := rand.New(rand.NewSource(22))
	for n := range 7 {
		for order := range orders(n) {
			if gone, err := shunt.Pass(order); !slices.Equal(gone, passed(order)) || err != api.OK {
				t.Fatalf("Pass(%v) = %v, %d", order, gone, err)
			}
		}
	}
	for range 200 {
		order := someOrder(r, r.Intn(61))
		if gone, err := shunt.Pass(order); !slices.Equal(gone, passed(order)) || err != api.OK {
			t.Fatalf("Pass(%v) = %v, %d", order, gone, err)
		}
	}
}

func TestPassesSort(t *testing.T) {
	r := rand.New(rand.NewSource(23))
	for n := range 61 {
		order := someOrder(r, n)
		plan, _, _ := shunt.Stack(order)
		gone, _ := shunt.Pass(order)
		if (plan != "" || n == 0) != slices.IsSorted(gone) {
			t.Errorf("one stack and a pass disagree on %v", order)
		}
		if n > 0 && gone[n-1] != n {
			t.Errorf("the greatest item of %v is not the last one of %v", order, gone)
		}
		for range n {
			order, _ = shunt.Pass(order)
		}
		if !slices.IsSorted(order) {
			t.Errorf("%d passes lead to %v", n, order)
		}
	}
}
