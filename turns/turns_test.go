package turns_test

import (
	"fmt"
	"math"
	"slices"
	"testing"

	"ticking/api"
	"ticking/turns"
)

// reversed returns the sequence in reverse order.
func reversed(sequence [][]int) [][]int {
	other := slices.Clone(sequence)
	slices.Reverse(other)
	return other
}

// allLists lists the lists of so many numbers from low to high.
func allLists(count, low, high int) [][]int {
	if count == 0 {
		return [][]int{nil}
	}
	var all [][]int
	for _, list := range allLists(count-1, low, high) {
		for x := low; x <= high; x++ {
			all = append(all, append(slices.Clone(list), x))
		}
	}
	return all
}

// span lists the numbers from first to last.
func span(first, last int) []int {
	var list []int
	for x := first; x <= last; x++ {
		list = append(list, x)
	}
	return list
}

// at is a function that returns what is at a position, and place one that returns the position.
type (
	at    func(int) ([]int, api.Errno)
	place func([]int) (int, api.Errno)
)

// checkSequence compares what is at all positions, and the positions of all that is there, with the sequence.
func checkSequence(t *testing.T, name string, sequence [][]int, at at, place place) {
	t.Helper()
	for i, want := range sequence {
		if got, e := at(i); !slices.Equal(got, want) || e != api.OK {
			t.Fatalf("%s at %d: %v, %d, not %v", name, i, got, e, want)
		}
		list := slices.Clone(want)
		if got, e := place(list); got != i || e != api.OK || !slices.Equal(list, want) {
			t.Fatalf("%s: the position of %v is %d, %d, not %d", name, want, got, e, i)
		}
	}
	for _, wrong := range []int{-1, len(sequence), -len(sequence), len(sequence) + 1, math.MinInt, math.MaxInt} {
		if got, e := at(wrong); len(got) != 0 || e != api.ErrArg {
			t.Fatalf("%s at %d: %v, %d", name, wrong, got, e)
		}
	}
}

// checkPlaces compares the positions of lists with where the sequence contains them: there is an error for those that it lacks.
func checkPlaces(t *testing.T, name string, sequence, lists [][]int, place place) {
	t.Helper()
	positions := map[string]int{}
	for i, list := range sequence {
		positions[fmt.Sprint(list)] = i
	}
	for _, list := range lists {
		want, there := positions[fmt.Sprint(list)]
		got, e := place(list)
		if got != want || (e == api.OK) != there || (e == api.ErrArg) == there {
			t.Fatalf("%s: the position of %v is %d, %d, not %d, %v", name, list, got, e, want, there)
		}
	}
}

// checkLarge follows a position there and back, and compares what is there with the document.
func checkLarge(t *testing.T, name string, position int, want []int, at at, place place) {
	t.Helper()
	got, e := at(position)
	if !slices.Equal(got, want) || e != api.OK {
		t.Fatalf("%s at %d: %v, %d, not %v", name, position, got, e, want)
	}
	if back, e := place(want); back != position || e != api.OK {
		t.Fatalf("%s: the position of %v is %d, %d, not %d", name, want, back, e, position)
	}
}

// refuses tests that a call has returned ErrArg, and with it no list and the number 0.
func refuses(t *testing.T, name string, list []int, number int, e api.Errno) {
	t.Helper()
	if len(list) != 0 || number != 0 || e != api.ErrArg {
		t.Errorf("%s: %v, %d, %d", name, list, number, e)
	}
}

// P10.1 to P10.4: the examples of the document.
func TestExamples(t *testing.T) {
	checkSequence(t, "S(2)", [][]int{{}, {1}, {1, 2}, {2}},
		func(at int) ([]int, api.Errno) { return turns.Set(2, at) },
		func(l []int) (int, api.Errno) { return turns.SetAt(2, l) })
	checkSequence(t, "C(3, 2)", [][]int{{1, 2}, {2, 3}, {1, 3}},
		func(at int) ([]int, api.Errno) { return turns.Choice(3, 2, at) },
		func(l []int) (int, api.Errno) { return turns.ChoiceAt(3, l) })
	checkSequence(t, "P(3)", [][]int{{1, 2, 3}, {1, 3, 2}, {3, 1, 2}, {3, 2, 1}, {2, 3, 1}, {2, 1, 3}},
		func(at int) ([]int, api.Errno) { return turns.Order(3, at) }, turns.OrderAt)
	checkSequence(t, "D(2, 3)", [][]int{{0, 0}, {0, 1}, {0, 2}, {1, 2}, {1, 1}, {1, 0}},
		func(at int) ([]int, api.Errno) { return turns.Setting([]int{2, 3}, at) },
		func(l []int) (int, api.Errno) { return turns.SettingAt([]int{2, 3}, l) })
	if n, e := turns.Groupings(5); n != 52 || e != api.OK {
		t.Errorf("Groupings(5) = %d, %d", n, e)
	}
	order := []int{1, 2, 3}
	for _, want := range [][2]int{{1, 2}, {0, 1}, {1, 2}, {0, 1}, {1, 2}, {-1, -1}} {
		exchanged, e := turns.Turn(order)
		if exchanged != want || e != api.OK {
			t.Errorf("Turn(%v) = %v, %d, not %v", order, exchanged, e, want)
		}
		if want[0] >= 0 {
			order[want[0]], order[want[1]] = order[want[1]], order[want[0]]
		}
	}
}

// P2: what a caller does with a result changes no later one.
func TestResultsAreNew(t *testing.T) {
	sizes := []int{3, 4, 2}
	for name, result := range map[string]func() ([]int, api.Errno){
		"Set":      func() ([]int, api.Errno) { return turns.Set(6, 37) },
		"Choice":   func() ([]int, api.Errno) { return turns.Choice(7, 3, 20) },
		"Order":    func() ([]int, api.Errno) { return turns.Order(6, 500) },
		"Grouping": func() ([]int, api.Errno) { return turns.Grouping(6, 150) },
		"Setting":  func() ([]int, api.Errno) { return turns.Setting(sizes, 17) },
	} {
		first, _ := result()
		want := slices.Clone(first)
		for i := range first {
			first[i] = -7
		}
		if second, e := result(); len(want) == 0 || !slices.Equal(second, want) || e != api.OK {
			t.Errorf("%s: %v, %d, then %v", name, want, e, second)
		}
	}
	if !slices.Equal(sizes, []int{3, 4, 2}) {
		t.Errorf("the sizes are %v", sizes)
	}
}
