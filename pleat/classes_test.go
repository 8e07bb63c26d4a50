package pleat_test

import (
	"math/rand"
	"slices"
	"strings"
	"testing"

	"ticking/api"
	"ticking/pleat"
)

// P5.4: classes. P5.5: what follows from the promises.

// looks finds, for each state of a determined recognizer, what every surrounding of a tree with this state makes of it: accepted or not. Surroundings that make the same of all trees are taken once.
func looks(d api.Recognizer) []string {
	next := map[string][]int{}
	for _, rule := range d.Rules {
		switch rule.Symbol {
		case 'f':
			put(next, "f", d.States, rule.From[0], rule.To)
		case 'g':
			put(next, "l"+string(rune('a'+rule.From[1])), d.States, rule.From[0], rule.To)
			put(next, "r"+string(rune('a'+rule.From[0])), d.States, rule.From[1], rule.To)
		}
	}
	start := strings.Repeat("-", d.States)
	for _, state := range d.Final {
		start = start[:state] + "+" + start[state+1:]
	}
	found := []string{start}
	known := map[string]bool{start: true}
	for i := 0; i < len(found); i++ {
		for _, to := range next {
			around := ""
			for _, state := range to {
				around += found[i][state : state+1]
			}
			if !known[around] {
				known[around] = true
				found = append(found, around)
			}
		}
	}
	slices.Sort(found)
	seen := make([]string, d.States)
	for _, around := range found {
		for state := range seen {
			seen[state] += around[state : state+1]
		}
	}
	return seen
}

func put(next map[string][]int, key string, states, from, to int) {
	if next[key] == nil {
		next[key] = make([]int, states)
	}
	next[key][from] = to
}

func distinct(list []string) int {
	return len(slices.Compact(slices.Sorted(slices.Values(list))))
}

func TestClassesSome(t *testing.T) {
	trees := smallTrees(4)
	var texts []string
	for _, s := range trees {
		texts = append(texts, s.text)
	}
	greatest := 0
	for _, r := range someRecognizers(62, 1500, 4) {
		d := determined(r, false)
		if d.States > 10 {
			continue
		}
		seen := looks(d)
		if n, e := pleat.Least(r); n != distinct(seen) || e != api.OK {
			t.Fatalf("Least(%v) = %d, %d, not %d", r, n, e, distinct(seen))
		}
		greatest = max(greatest, distinct(seen))
		states := had(d, trees)
		var want []int
		for i, s := range trees {
			first := slices.IndexFunc(trees[:i], func(u *sample) bool { return seen[states[u][0]] == seen[states[s][0]] })
			if first < 0 {
				first = i
			}
			want = append(want, first)
		}
		checkClasses(t, r, texts, want)
		checkClasses(t, r, slices.Concat(texts[1:], texts[:1]), nil)
	}
	if greatest < 8 {
		t.Errorf("at most %d classes", greatest)
	}
}

// checkClasses also checks that the positions are those of first trees.
func checkClasses(t *testing.T, r api.Recognizer, texts []string, want []int) {
	t.Helper()
	classes, e := pleat.Classes(r, texts)
	if e != api.OK || len(classes) != len(texts) || want != nil && !slices.Equal(classes, want) {
		t.Fatalf("Classes(%v, %v) = %v, %d, not %v", r, texts, classes, e, want)
	}
	for i, first := range classes {
		if first < 0 || first > i || classes[first] != first {
			t.Fatalf("Classes(%v, %v) = %v", r, texts, classes)
		}
	}
}

// By the definition: equivalent trees are accepted alike, wherever they are put; others are told apart somewhere.
func TestClassesByPlaces(t *testing.T) {
	trees := smallTrees(3)
	places := []string{"_"}
	for from := 0; len(places) < 400; {
		until := len(places)
		for _, place := range places[from:until] {
			places = append(places, "f("+place+")")
			for _, s := range trees[:3] {
				places = append(places, "g("+place+","+s.text+")", "g("+s.text+","+place+")")
			}
		}
		from = until
	}
	for _, r := range someRecognizers(63, 100, 2) {
		var texts, marks []string
		for _, s := range trees {
			texts = append(texts, s.text)
			mark := ""
			for _, place := range places {
				is, _ := pleat.Accepts(r, strings.Replace(place, "_", s.text, 1))
				mark += map[bool]string{false: "-", true: "+"}[is]
			}
			marks = append(marks, mark)
		}
		var want []int
		for _, mark := range marks {
			want = append(want, slices.Index(marks, mark))
		}
		checkClasses(t, r, texts, want)
	}
}

func TestClassesExamples(t *testing.T) {
	if n, e := pleat.Least(chain()); n != 2 || e != api.OK {
		t.Errorf("Least = %d, %d", n, e)
	}
	checkClasses(t, chain(), []string{"x", "y", "f(x)", "f(y)", "g(x,x)"}, []int{0, 1, 0, 1, 1})
	checkClasses(t, chain(), []string{"y", "f(y)", "f(x)", "y", "x"}, []int{0, 0, 2, 0, 2})
	checkClasses(t, all(), nil, nil)
	if n, e := pleat.Least(all()); n != 1 || e != api.OK {
		t.Errorf("Least = %d, %d", n, e)
	}
	// Accepted are x, and g(y,T) with any T: what differs is seen in a right part or in a left one only.
	r := api.Recognizer{States: 3, Rules: []api.Leaf{rule('x', 0), rule('y', 1), rule('x', 2), rule('y', 2), rule('f', 2, 2), rule('g', 2, 2, 2), rule('g', 0, 1, 2)}, Final: []int{0}}
	checkClasses(t, r, []string{"x", "g(y,x)", "y", "f(x)", "g(x,y)", "g(x,x)"}, []int{0, 0, 2, 3, 3, 3})
	r.Rules[6] = rule('g', 0, 2, 1)
	checkClasses(t, r, []string{"x", "g(x,y)", "y", "f(x)", "g(y,x)", "g(x,x)"}, []int{0, 0, 2, 3, 3, 3})
}

// subsets has the four states 1 to 4 in any combination, with one more for trees that have none of them.
func subsets() api.Recognizer {
	r := api.Recognizer{States: 5, Rules: []api.Leaf{rule('x', 1), rule('y', 2)}, Final: []int{1}}
	for i := 1; i <= 4; i++ {
		r.Rules = append(r.Rules, rule('f', i%4+1, i))
		for j := 1; j <= 4; j++ {
			r.Rules = append(r.Rules, rule('g', i, i, j), rule('g', j, i, j))
		}
	}
	return r
}

// No class is lost where there are many: a tree with states of its own differs, at some place, from every other one.
func TestManyClasses(t *testing.T) {
	if n, e := pleat.Least(subsets()); n != 15 || e != api.OK {
		t.Errorf("Least = %d, %d", n, e)
	}
	if n := distinct(looks(determined(subsets(), false))); n != 15 {
		t.Errorf("%d classes", n)
	}
	x := rand.New(rand.NewSource(64))
	greatest := 0
	for range 300 {
		r := someRecognizer(x, 5, 25)
		n, e := pleat.Least(r)
		d := determined(r, false)
		if n < 1 || n > d.States || e != api.OK {
			t.Fatalf("Least(%v) = %d of %d, %d", r, n, d.States, e)
		}
		greatest = max(greatest, n)
	}
	if greatest < 20 {
		t.Errorf("at most %d classes", greatest)
	}
}

func TestClassesErrors(t *testing.T) {
	trees := slices.Repeat([]string{"x"}, 50)
	checkClasses(t, all(), trees, make([]int, 50))
	for _, trees := range [][]string{append(trees, "y"), slices.Repeat([]string{"x"}, 1<<16)} {
		if classes, e := pleat.Classes(all(), trees); len(classes) != 0 || e != api.ErrArg {
			t.Errorf("Classes = %v, %d", classes, e)
		}
	}
	for _, at := range []int{0, 49, 50} {
		trees := slices.Repeat([]string{"x"}, 51)
		trees[at] = "z"
		if classes, e := pleat.Classes(all(), trees); len(classes) != 0 || e != api.ErrSyntax {
			t.Errorf("Classes = %v, %d", classes, e)
		}
	}
}

// P5.5: inclusion is transitive.
func TestIncludeTransitive(t *testing.T) {
	rs := slices.Concat(someRecognizers(65, 30, 2), []api.Recognizer{chain(), withoutY(), all()})
	var above [][]bool
	for _, r := range rs {
		var row []bool
		for _, s := range rs {
			is, _, e := pleat.Include(r, s)
			if e != api.OK {
				t.Fatalf("Include: %d", e)
			}
			row = append(row, is)
		}
		above = append(above, row)
	}
	for i := range rs {
		for j := range rs {
			for k := range rs {
				if above[i][j] && above[j][k] && !above[i][k] {
					t.Errorf("%v is in %v, and this one in %v", rs[i], rs[j], rs[k])
				}
			}
		}
		if !above[i][i] {
			t.Errorf("%v is not in itself", rs[i])
		}
	}
}

// same accepts the same trees as r, in another way: its states have other numbers, and its rules another order.
func same(x *rand.Rand, r api.Recognizer) api.Recognizer {
	to := x.Perm(r.States)
	s := copied(r)
	for i := range s.Rules {
		s.Rules[i].To = to[s.Rules[i].To]
		for j := range s.Rules[i].From {
			s.Rules[i].From[j] = to[s.Rules[i].From[j]]
		}
	}
	for i := range s.Final {
		s.Final[i] = to[s.Final[i]]
	}
	slices.Sort(s.Final)
	x.Shuffle(len(s.Rules), func(i, j int) { s.Rules[i], s.Rules[j] = s.Rules[j], s.Rules[i] })
	return s
}

func checkSame(t *testing.T, r, s api.Recognizer) {
	t.Helper()
	one, text, e := pleat.Include(r, s)
	other, but, f := pleat.Include(s, r)
	if !one || !other || e != api.OK || f != api.OK {
		t.Fatalf("%v accepts %s, %d; %v accepts %s, %d", r, text, e, s, but, f)
	}
	checkAlike(t, r, s)
}

// checkAlike checks what recognizers share that include each other.
func checkAlike(t *testing.T, r, s api.Recognizer) {
	t.Helper()
	a, _ := pleat.Count(r, 25)
	b, _ := pleat.Count(s, 25)
	m, _ := pleat.Least(r)
	n, _ := pleat.Least(s)
	if !slices.Equal(a, b) || m != n {
		t.Fatalf("%v: %v trees and %d classes; %v: %v trees and %d classes", r, a, m, s, b, n)
	}
}

func TestIncludeEachOther(t *testing.T) {
	x := rand.New(rand.NewSource(66))
	small := someRecognizers(67, 100, 2)
	for i, r := range small {
		for _, s := range small[:i] {
			one, _, _ := pleat.Include(r, s)
			if other, _, _ := pleat.Include(s, r); one && other {
				checkAlike(t, r, s)
			}
		}
	}
	for _, r := range someRecognizers(68, 300, 5) {
		checkSame(t, r, same(x, r))
		if d := determined(r, false); d.States <= 5 {
			checkSame(t, r, d)
		}
	}
}

// P5.5: the first tree has the first size of which Count is not 0.
func TestFirstIsCounted(t *testing.T) {
	for _, r := range someRecognizers(69, 500, 5) {
		text, e := pleat.First(r)
		counts, _ := pleat.Count(r, 25)
		size := slices.IndexFunc(counts, func(n int) bool { return n > 0 })
		if e == api.OK && symbols(text) <= 25 && size != symbols(text) || e != api.OK && size >= 0 {
			t.Fatalf("%v: First = %s, %d, Count = %v", r, text, e, counts)
		}
	}
}

// P5.5: equivalent trees are both accepted or both not, and what is made of them is equivalent.
func TestExtensions(t *testing.T) {
	trees := smallTrees(4)
	x := rand.New(rand.NewSource(70))
	for _, r := range someRecognizers(71, 300, 5) {
		var texts []string
		for range 50 {
			texts = append(texts, trees[x.Intn(len(trees))].text)
		}
		classes, _ := pleat.Classes(r, texts)
		other := trees[x.Intn(len(trees))].text
		for _, around := range [][2]string{{"f(", ")"}, {"g(", "," + other + ")"}, {"g(" + other + ",", ")"}} {
			var wider []string
			for _, text := range texts {
				wider = append(wider, around[0]+text+around[1])
			}
			after, _ := pleat.Classes(r, wider)
			for i, first := range classes {
				one, _ := pleat.Accepts(r, texts[i])
				two, _ := pleat.Accepts(r, texts[first])
				if one != two || after[i] != after[first] {
					t.Fatalf("%v: %s and %s are equivalent, with %v around they are not", r, texts[i], texts[first], around)
				}
			}
		}
	}
}
