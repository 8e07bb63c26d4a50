package pleat_test

import (
	"math"
	"slices"
	"testing"

	"ticking/api"
	"ticking/pleat"
)

// P5.3: counting.

func TestCountSmall(t *testing.T) {
	trees := smallTrees(7)
	for _, r := range someRecognizers(57, 1000, 5) {
		states := had(r, trees)
		want := make([]int, 8)
		for _, s := range trees {
			if isFinal(r, states[s]) {
				want[s.size]++
			}
		}
		for n := range want {
			if counts, e := pleat.Count(r, n); !slices.Equal(counts, want[:n+1]) || e != api.OK {
				t.Fatalf("Count(%v, %d) = %v, %d, not %v", r, n, counts, e, want[:n+1])
			}
		}
	}
}

// allCounts counts all trees: 2 leaves, and what comes from smaller trees by f and by g.
func allCounts() []int {
	counts := make([]int, 26)
	counts[1] = 2
	for n := 2; n <= 25; n++ {
		counts[n] = counts[n-1]
		for left := range n {
			counts[n] += counts[left] * counts[n-1-left]
		}
	}
	return counts
}

func TestCountAll(t *testing.T) {
	want := allCounts()
	if counts, e := pleat.Count(all(), 25); !slices.Equal(counts, want) || e != api.OK {
		t.Errorf("Count = %v, %d, not %v", counts, e, want)
	}
	for n := range 26 {
		if counts, e := pleat.Count(all(), n); !slices.Equal(counts, want[:n+1]) || e != api.OK {
			t.Errorf("Count = %v, %d", counts, e)
		}
	}
}

// Trees with x and g alone: the Catalan numbers.
func TestCountSeams(t *testing.T) {
	r := api.Recognizer{States: 2, Rules: []api.Leaf{rule('x', 0), rule('x', 1), rule('g', 1, 1, 0), rule('g', 0, 0, 0), rule('g', 1, 0, 1)}, Final: []int{0, 1}}
	want := []int{0, 1, 0, 1, 0, 2, 0, 5, 0, 14, 0, 42, 0, 132, 0, 429, 0, 1430, 0, 4862, 0, 16796, 0, 58786, 0, 208012}
	if counts, e := pleat.Count(r, 25); !slices.Equal(counts, want) || e != api.OK {
		t.Errorf("Count = %v, %d", counts, e)
	}
}

// Trees that are accepted by r, and those by its opposite, are all trees.
func TestCountOpposites(t *testing.T) {
	want, seen := allCounts(), 0
	for _, r := range someRecognizers(58, 600, 3) {
		opposite := determined(r, true)
		if opposite.States > 5 || len(opposite.Rules) > 60 {
			continue
		}
		seen++
		counts, e := pleat.Count(r, 25)
		others, f := pleat.Count(opposite, 25)
		if e != api.OK || f != api.OK {
			t.Fatalf("Count: %d, %d", e, f)
		}
		for n := range want {
			if counts[n]+others[n] != want[n] {
				t.Fatalf("%v: %d and %d trees of size %d", r, counts[n], others[n], n)
			}
		}
	}
	if seen < 100 {
		t.Errorf("%d recognizers", seen)
	}
}

func TestCountErrors(t *testing.T) {
	for _, n := range []int{-1, 26, math.MinInt, math.MaxInt} {
		if counts, e := pleat.Count(all(), n); len(counts) != 0 || e != api.ErrArg {
			t.Errorf("Count(%d) = %v, %d", n, counts, e)
		}
	}
}

func TestCountExamples(t *testing.T) {
	if counts, e := pleat.Count(chain(), 3); !slices.Equal(counts, []int{0, 1, 1, 1}) || e != api.OK {
		t.Errorf("Count = %v, %d", counts, e)
	}
	if is, e := pleat.Infinite(chain()); !is || e != api.OK {
		t.Errorf("Infinite = %t, %d", is, e)
	}
	if counts, e := pleat.Count(withoutY(), 3); !slices.Equal(counts, []int{0, 1, 1, 2}) || e != api.OK {
		t.Errorf("Count = %v, %d", counts, e)
	}
}

// hasCircle looks for a state that is of use in accepted trees and comes above itself.
func hasCircle(r api.Recognizer) bool {
	reached := closed(r, func(rule api.Leaf, in []bool) []int {
		for _, state := range rule.From {
			if !in[state] {
				return nil
			}
		}
		return []int{rule.To}
	})
	useful := closed(r, func(rule api.Leaf, in []bool) []int {
		for _, state := range rule.From {
			if !reached[state] {
				return nil
			}
		}
		if in[rule.To] || slices.Contains(r.Final, rule.To) {
			return append([]int{rule.To}, rule.From...)
		}
		return nil
	})
	for start := range r.States {
		above := closed(r, func(rule api.Leaf, in []bool) []int {
			for _, state := range rule.From {
				if !reached[state] || !useful[rule.To] {
					return nil
				}
			}
			if slices.ContainsFunc(rule.From, func(state int) bool { return state == start || in[state] }) {
				return []int{rule.To}
			}
			return nil
		})
		if above[start] {
			return true
		}
	}
	return false
}

// closed takes states in as long as a rule gives any.
func closed(r api.Recognizer, given func(api.Leaf, []bool) []int) []bool {
	in := make([]bool, r.States)
	for range r.States {
		for _, rule := range r.Rules {
			for _, state := range given(rule, in) {
				in[state] = true
			}
		}
	}
	return in
}

func TestInfiniteSome(t *testing.T) {
	seen := map[bool]int{}
	for _, r := range slices.Concat(someRecognizers(59, 4000, 5), upward(500)) {
		want := hasCircle(r)
		seen[want]++
		if is, e := pleat.Infinite(r); is != want || e != api.OK {
			t.Fatalf("Infinite(%v) = %t, %d", r, is, e)
		}
	}
	if seen[true] < 500 || seen[false] < 500 {
		t.Errorf("%v", seen)
	}
}

// upward makes recognizers whose rules mostly go to greater states, so that circles are rare.
func upward(count int) []api.Recognizer {
	rs := someRecognizers(60, count, 5)
	for i, r := range rs {
		for j, rule := range r.Rules {
			if most := slices.Max(append([]int{-1}, rule.From...)); rule.To <= most && (i%3 > 0 || j > 0) {
				rs[i].Rules[j].To = min(most+1, r.States-1)
			}
		}
		if i%2 == 0 && len(r.Rules) > 0 {
			rs[i].Rules = slices.DeleteFunc(r.Rules, func(rule api.Leaf) bool { return slices.Contains(rule.From, rule.To) })
		}
	}
	return rs
}

// With two states, a tree of more than 2 levels has at least 3 symbols, and finitely many trees have at most 3.
func TestInfiniteByCounts(t *testing.T) {
	for _, r := range someRecognizers(61, 3000, 2) {
		counts, _ := pleat.Count(r, 25)
		want := slices.ContainsFunc(counts[4:], func(n int) bool { return n > 0 })
		if is, e := pleat.Infinite(r); is != want || e != api.OK {
			t.Fatalf("Infinite(%v) = %t, %d, but Count = %v", r, is, e, counts)
		}
	}
}

func TestInfiniteExamples(t *testing.T) {
	for i, x := range []struct {
		rules []api.Leaf
		want  bool
	}{
		{nil, false},
		{[]api.Leaf{rule('x', 4)}, false},
		{[]api.Leaf{rule('x', 0), rule('f', 1, 0), rule('f', 2, 1), rule('g', 3, 2, 2), rule('g', 4, 3, 3)}, false},
		{[]api.Leaf{rule('x', 0), rule('f', 1, 0), rule('f', 2, 1), rule('g', 3, 2, 2), rule('g', 4, 3, 3), rule('f', 0, 3)}, true},
		{[]api.Leaf{rule('x', 4), rule('f', 4, 4)}, true},
		{[]api.Leaf{rule('x', 4), rule('f', 3, 4), rule('f', 3, 3)}, false},       // a circle that leads nowhere
		{[]api.Leaf{rule('x', 4), rule('f', 3, 3), rule('f', 4, 3)}, false},       // a circle without a leaf
		{[]api.Leaf{rule('x', 4), rule('g', 4, 4, 3)}, false},                     // beside a state without a tree
		{[]api.Leaf{rule('x', 4), rule('y', 3), rule('g', 4, 3, 4)}, true},        // in the right part
		{[]api.Leaf{rule('y', 3), rule('g', 2, 3, 3), rule('g', 4, 2, 2)}, false}, // seams without a circle
		{[]api.Leaf{rule('y', 0), rule('f', 0, 0), rule('g', 4, 0, 1)}, false},    // a circle beside a state without a tree
		{[]api.Leaf{rule('y', 0), rule('x', 1), rule('f', 1, 1), rule('g', 4, 0, 1)}, true},
	} {
		r := api.Recognizer{States: 5, Rules: x.rules, Final: []int{4}}
		if is, e := pleat.Infinite(r); is != x.want || e != api.OK {
			t.Errorf("%d: Infinite = %t, %d", i, is, e)
		}
	}
}
