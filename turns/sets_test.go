package turns_test

import (
	"fmt"
	"math"
	"math/big"
	"math/rand"
	"slices"
	"testing"

	"ticking/api"
	"ticking/turns"
)

// with returns the sequence with n added to each set.
func with(sequence [][]int, n int) [][]int {
	var all [][]int
	for _, set := range sequence {
		all = append(all, append(slices.Clone(set), n))
	}
	return all
}

// sets follows the document: S(n).
func sets(n int) [][]int {
	if n == 0 {
		return [][]int{nil}
	}
	smaller := sets(n - 1)
	return append(slices.Clone(smaller), with(reversed(smaller), n)...)
}

// choices follows the document: C(n, k).
func choices(n, k int) [][]int {
	switch k {
	case 0:
		return [][]int{nil}
	case n:
		return [][]int{span(1, n)}
	}
	return append(choices(n-1, k), with(reversed(choices(n-1, k-1)), n)...)
}

func chosen(n, k int) int {
	return int(new(big.Int).Binomial(int64(n), int64(k)).Int64())
}

// setAt follows the document for one position of S(n).
func setAt(n, at int) []int {
	if n == 0 {
		return nil
	}
	smaller := int(math.Pow(2, float64(n-1)))
	if at < smaller {
		return setAt(n-1, at)
	}
	return append(setAt(n-1, smaller-1-(at-smaller)), n)
}

// choiceAt follows the document for one position of C(n, k).
func choiceAt(n, k, at int) []int {
	switch k {
	case 0:
		return nil
	case n:
		return span(1, n)
	}
	without := chosen(n-1, k)
	if at < without {
		return choiceAt(n-1, k, at)
	}
	return append(choiceAt(n-1, k-1, chosen(n-1, k-1)-1-(at-without)), n)
}

func setsOf(n int) (at, place) {
	return func(at int) ([]int, api.Errno) { return turns.Set(n, at) },
		func(set []int) (int, api.Errno) { return turns.SetAt(n, set) }
}

func choicesOf(n, k int) (at, place) {
	return func(at int) ([]int, api.Errno) { return turns.Choice(n, k, at) },
		func(set []int) (int, api.Errno) { return turns.ChoiceAt(n, set) }
}

// apart returns how many numbers are in one of the sets only.
func apart(a, b []int) int {
	count := 0
	for _, x := range slices.Concat(a, b) {
		if slices.Contains(a, x) != slices.Contains(b, x) {
			count++
		}
	}
	return count
}

// checkSteps tests that a number of things differs by this much between neighbors.
func checkSteps(t *testing.T, name string, sequence [][]int, differ func(a, b []int) int, want int) {
	t.Helper()
	for i := 1; i < len(sequence); i++ {
		if d := differ(sequence[i-1], sequence[i]); d != want {
			t.Fatalf("%s: %v and %v differ by %d, not %d", name, sequence[i-1], sequence[i], d, want)
		}
	}
}

// collect lists what the program has at all positions.
func collect(length int, at at) [][]int {
	var all [][]int
	for i := range length {
		list, _ := at(i)
		all = append(all, list)
	}
	return all
}

// P10.1, P10.2: all sets of the first numbers.
func TestSets(t *testing.T) {
	for n := range 13 {
		at, place := setsOf(n)
		checkSequence(t, fmt.Sprintf("S(%d)", n), sets(n), at, place)
	}
}

// P10.1, P10.2 and P10.3: all choices of the first numbers.
func TestChoices(t *testing.T) {
	for n := range 13 {
		for k := range n + 1 {
			at, place := choicesOf(n, k)
			checkSequence(t, fmt.Sprintf("C(%d, %d)", n, k), choices(n, k), at, place)
			if many, e := turns.Many(n, k); many != len(choices(n, k)) || e != api.OK {
				t.Fatalf("Many(%d, %d) = %d, %d", n, k, many, e)
			}
		}
	}
}

// P10.5: the small changes, and the number of sets of each size.
func TestSetsProperties(t *testing.T) {
	for n := 1; n <= 12; n++ {
		at, _ := setsOf(n)
		all := collect(1<<n, at)
		name := fmt.Sprintf("S(%d)", n)
		checkSteps(t, name, append(all, all[0]), apart, 1)
		sizes := map[int]int{}
		for _, set := range all {
			sizes[len(set)]++
		}
		for k := range n + 1 {
			if many, e := turns.Many(n, k); many != sizes[k] || e != api.OK {
				t.Fatalf("Many(%d, %d) = %d, %d, not %d", n, k, many, e, sizes[k])
			}
		}
		for k := 1; k < n; k++ {
			at, _ := choicesOf(n, k)
			all := collect(sizes[k], at)
			checkSteps(t, fmt.Sprintf("C(%d, %d)", n, k), append(all, all[0]), apart, 2)
		}
	}
}

// positions picks positions of a long sequence: the first and last ones, those around its middle, and others.
func positions(x *rand.Rand, length int) []int {
	list := []int{0, 1, length/2 - 1, length / 2, length/2 + 1, length - 2, length - 1}
	for range 40 {
		list = append(list, x.Intn(length))
	}
	return slices.DeleteFunc(list, func(at int) bool { return at < 0 || at >= length })
}

// P10.1, P10.2 and P10.5 up to the limit.
func TestLargeSets(t *testing.T) {
	x := rand.New(rand.NewSource(31))
	for n := 1; n <= 40; n++ {
		name := fmt.Sprintf("S(%d)", n)
		at, place := setsOf(n)
		length := int(math.Pow(2, float64(n)))
		for _, p := range positions(x, length) {
			checkLarge(t, name, p, setAt(n, p), at, place)
			set, _ := at(p)
			next, _ := at((p + 1) % length)
			if apart(set, next) != 1 {
				t.Fatalf("%s: %v and %v", name, set, next)
			}
		}
		for _, wrong := range []int{-1, length, length + 1, math.MinInt, math.MaxInt} {
			set, e := at(wrong)
			refuses(t, name, set, 0, e)
		}
	}
	if at, e := turns.SetAt(40, []int{40}); at != 1<<40-1 || e != api.OK {
		t.Errorf("SetAt(40, 40) = %d, %d", at, e)
	}
}

// P10.1, P10.2, P10.3 and P10.5 up to the limit.
func TestLargeChoices(t *testing.T) {
	x := rand.New(rand.NewSource(32))
	for n := range 41 {
		for k := range n + 1 {
			name := fmt.Sprintf("C(%d, %d)", n, k)
			at, place := choicesOf(n, k)
			length := chosen(n, k)
			if many, e := turns.Many(n, k); many != length || e != api.OK {
				t.Fatalf("Many(%d, %d) = %d, %d, not %d", n, k, many, e, length)
			}
			for _, p := range positions(x, length) {
				checkLarge(t, name, p, choiceAt(n, k, p), at, place)
				set, _ := at(p)
				next, _ := at((p + 1) % length)
				if length > 1 && apart(set, next) != 2 {
					t.Fatalf("%s: %v and %v", name, set, next)
				}
			}
			for _, wrong := range []int{-1, length, length + 1, math.MinInt, math.MaxInt} {
				set, e := at(wrong)
				refuses(t, name, set, 0, e)
			}
		}
	}
}

// P10.1, P10.3: the wrong numbers.
func TestSetsRefuse(t *testing.T) {
	for _, n := range []int{math.MinInt, -2, -1, 41, 42, 63, 64, 65, 1000, math.MaxInt} {
		for _, at := range []int{-1, 0, 1} {
			set, e := turns.Set(n, at)
			refuses(t, fmt.Sprintf("Set(%d, %d)", n, at), set, 0, e)
			for _, k := range []int{-1, 0, 1, n - 1, n, n + 1} {
				set, e := turns.Choice(n, k, at)
				refuses(t, fmt.Sprintf("Choice(%d, %d, %d)", n, k, at), set, 0, e)
				many, e := turns.Many(n, k)
				refuses(t, fmt.Sprintf("Many(%d, %d)", n, k), nil, many, e)
			}
		}
		for _, list := range [][]int{nil, {1}, {n}, {1, 2}} {
			at, e := turns.SetAt(n, list)
			refuses(t, fmt.Sprintf("SetAt(%d, %v)", n, list), nil, at, e)
			at, e = turns.ChoiceAt(n, list)
			refuses(t, fmt.Sprintf("ChoiceAt(%d, %v)", n, list), nil, at, e)
		}
	}
	for n := range 41 {
		for _, k := range []int{math.MinInt, -1, n + 1, 41, math.MaxInt} {
			set, e := turns.Choice(n, k, 0)
			refuses(t, fmt.Sprintf("Choice(%d, %d, 0)", n, k), set, 0, e)
			many, e := turns.Many(n, k)
			refuses(t, fmt.Sprintf("Many(%d, %d)", n, k), nil, many, e)
		}
	}
}

// P10.2: all short lists, of which few are sets.
func TestPlacesOfSets(t *testing.T) {
	for n := range 5 {
		_, place := setsOf(n)
		for count := range 6 {
			lists := allLists(count, -1, 5)
			checkPlaces(t, fmt.Sprintf("S(%d)", n), sets(n), lists, place)
			var some [][]int
			if count <= n {
				some = choices(n, count)
			}
			_, place := choicesOf(n, count)
			checkPlaces(t, fmt.Sprintf("C(%d, %d)", n, count), some, lists, place)
		}
	}
}

// P10.2: long lists, and those with a wrong number.
func TestSetsAtRefuse(t *testing.T) {
	lists := [][]int{span(1, 41), span(0, 40), span(0, 39), make([]int, 100000), append(span(1, 39), 39), append(span(2, 40), 1)}
	for _, wrong := range []int{math.MinInt, -1, 0, 41, math.MaxInt} {
		lists = append(lists, []int{wrong}, []int{1, wrong}, []int{wrong, 40}, []int{3, wrong, 40}, append(span(1, 40), wrong))
	}
	for _, list := range lists {
		for _, n := range []int{0, 1, 2, 39, 40} {
			at, e := turns.SetAt(n, list)
			refuses(t, fmt.Sprintf("SetAt(%d, %v)", n, list), nil, at, e)
			at, e = turns.ChoiceAt(n, list)
			refuses(t, fmt.Sprintf("ChoiceAt(%d, %v)", n, list), nil, at, e)
		}
	}
}
