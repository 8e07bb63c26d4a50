package pleat_test

import (
	"math/rand"
	"slices"
	"strings"
	"testing"

	"ticking/api"
	"ticking/pleat"
)

// P5.2: first trees.

// expectation is the first tree that is looked for, with its size; its text is empty if it has more than 200 symbols.
type expectation struct {
	size int
	text string
}

func (x expectation) before(y expectation) bool {
	return x.size < y.size || x.size == y.size && x.text < y.text
}

// none is not before any other one.
const none = 1 << 60

// expected looks for the first tree with final states of both, by improving on the first trees of all pairs of states as long as that is possible.
func expected(r, s api.Recognizer) expectation {
	best := make([][]expectation, r.States)
	for i := range best {
		best[i] = slices.Repeat([]expectation{{size: none}}, s.States)
	}
	for changed := true; changed; {
		changed = false
		for _, a := range r.Rules {
			for _, b := range s.Rules {
				if a.Symbol != b.Symbol {
					continue
				}
				if x := joined(a, b, best); x.before(best[a.To][b.To]) {
					best[a.To][b.To] = x
					changed = true
				}
			}
		}
	}
	first := expectation{size: none}
	for _, i := range r.Final {
		for _, j := range s.Final {
			if best[i][j].before(first) {
				first = best[i][j]
			}
		}
	}
	return first
}

// joined is the first tree to which both rules apply.
func joined(a, b api.Leaf, best [][]expectation) expectation {
	x := expectation{size: 1}
	var texts []string
	for i := range a.From {
		part := best[a.From[i]][b.From[i]]
		x.size = min(x.size+part.size, none)
		texts = append(texts, part.text)
	}
	if x.size > 200 {
		return x
	}
	x.text = string(rune(a.Symbol))
	if len(texts) > 0 {
		x.text += "(" + strings.Join(texts, ",") + ")"
	}
	return x
}

// determined has a state for each set of states that trees have, and exactly one for each tree. What it accepts is what r accepts or, if opposite, what it does not. It may have too many states for the program.
func determined(r api.Recognizer, opposite bool) api.Recognizer {
	d := api.Recognizer{}
	var sets []int
	number := func(set int) int {
		if !slices.Contains(sets, set) {
			sets = append(sets, set)
		}
		return slices.Index(sets, set)
	}
	d.Rules = append(d.Rules, rule('x', number(after(r, 'x'))), rule('y', number(after(r, 'y'))))
	for i := 0; i < len(sets); i++ {
		d.Rules = append(d.Rules, rule('f', number(after(r, 'f', sets[i])), i))
		for j := range i + 1 {
			d.Rules = append(d.Rules, rule('g', number(after(r, 'g', sets[i], sets[j])), i, j))
			if j < i {
				d.Rules = append(d.Rules, rule('g', number(after(r, 'g', sets[j], sets[i])), j, i))
			}
		}
	}
	d.States = len(sets)
	for i, set := range sets {
		accepted := slices.ContainsFunc(r.Final, func(state int) bool { return set>>state&1 == 1 })
		if accepted != opposite {
			d.Final = append(d.Final, i)
		}
	}
	return d
}

// after is the set of the states of a tree whose parts have those sets.
func after(r api.Recognizer, symbol byte, parts ...int) int {
	set := 0
rules:
	for _, rule := range r.Rules {
		if rule.Symbol != symbol {
			continue
		}
		for i, state := range rule.From {
			if parts[i]>>state&1 == 0 {
				continue rules
			}
		}
		set |= 1 << rule.To
	}
	return set
}

func checkFirst(t *testing.T, r api.Recognizer) {
	t.Helper()
	text, e := pleat.First(r)
	checkExpected(t, expected(r, r), text, e)
}

func checkCommon(t *testing.T, r, s api.Recognizer) {
	t.Helper()
	text, e := pleat.Common(r, s)
	checkExpected(t, expected(r, s), text, e)
}

func checkExpected(t *testing.T, want expectation, text string, e api.Errno) {
	t.Helper()
	code := api.OK
	switch {
	case want.size == none:
		code = api.ErrNone
	case want.size > 200:
		code = api.ErrFull
	}
	if text != want.text || e != code {
		t.Fatalf("%s, %d, but the first tree is %s, of size %d", text, e, want.text, want.size)
	}
}

func checkInclude(t *testing.T, r, s api.Recognizer) {
	t.Helper()
	is, text, e := pleat.Include(r, s)
	want := expected(r, determined(s, true))
	if want.size != none {
		if is {
			t.Fatalf("Include(%v, %v), but %v", r, s, want)
		}
		checkExpected(t, want, text, e)
	} else if !is || text != "" || e != api.OK {
		t.Fatalf("Include(%v, %v) = %t, %s, %d", r, s, is, text, e)
	}
}

// By the definition: the first one in the list of all small trees.
func TestFirstSmall(t *testing.T) {
	trees := smallTrees(6)
	rs := someRecognizers(54, 1500, 5)
	for i, r := range rs {
		s := rs[(i+1)%len(rs)]
		a, b := had(r, trees), had(s, trees)
		text, e := pleat.First(r)
		checkAmong(t, trees, func(u *sample) bool { return isFinal(r, a[u]) }, text, e)
		text, e = pleat.Common(r, s)
		checkAmong(t, trees, func(u *sample) bool { return isFinal(r, a[u]) && isFinal(s, b[u]) }, text, e)
		is, text, e := pleat.Include(r, s)
		if is {
			e = api.ErrNone
		}
		checkAmong(t, trees, func(u *sample) bool { return isFinal(r, a[u]) && !isFinal(s, b[u]) }, text, e)
	}
}

// checkAmong compares with the first tree in the list that is wanted. If there is none, a tree must be missing, or greater than all these.
func checkAmong(t *testing.T, trees []*sample, wanted func(*sample) bool, text string, e api.Errno) {
	t.Helper()
	at := slices.IndexFunc(trees, wanted)
	if at >= 0 && (text != trees[at].text || e != api.OK) {
		t.Fatalf("%s, %d, but the first tree is %s", text, e, trees[at].text)
	}
	if at < 0 && e == api.OK && symbols(text) <= trees[len(trees)-1].size {
		t.Fatalf("%s is not one of the trees", text)
	}
}

// symbols is the size of a tree.
func symbols(text string) int {
	return len(text) - strings.Count(text, "(") - strings.Count(text, ")") - strings.Count(text, ",")
}

func TestFirstSome(t *testing.T) {
	rs := someRecognizers(55, 1500, 5)
	for i, r := range rs {
		s := rs[(i+1)%len(rs)]
		checkFirst(t, r)
		checkCommon(t, r, s)
		checkCommon(t, s, r)
		if i < 500 {
			checkInclude(t, r, s)
			checkInclude(t, s, r)
		}
		checkInclude(t, r, fuller(r))
		checkInclude(t, fuller(r), r)
	}
}

// fuller accepts what r does, and often more.
func fuller(r api.Recognizer) api.Recognizer {
	r = copied(r)
	r.Rules = append(r.Rules[:len(r.Rules):len(r.Rules)], rule('x', 0), rule('f', r.States-1, 0))
	return r
}

func TestFirstExamples(t *testing.T) {
	if text, e := pleat.First(chain()); text != "x" || e != api.OK {
		t.Errorf("First = %s, %d", text, e)
	}
	if is, text, e := pleat.Include(chain(), withoutY()); !is || text != "" || e != api.OK {
		t.Errorf("Include = %t, %s, %d", is, text, e)
	}
	if is, text, e := pleat.Include(withoutY(), chain()); is || text != "g(x,x)" || e != api.OK {
		t.Errorf("Include = %t, %s, %d", is, text, e)
	}
	if is, text, e := pleat.Include(all(), withoutY()); is || text != "y" || e != api.OK {
		t.Errorf("Include = %t, %s, %d", is, text, e)
	}
}

func TestNothingAccepted(t *testing.T) {
	noLeaf := api.Recognizer{States: 2, Rules: []api.Leaf{rule('f', 0, 1), rule('g', 1, 0, 0)}, Final: []int{0, 1}}
	notFinal := api.Recognizer{States: 2, Rules: []api.Leaf{rule('x', 0), rule('f', 0, 0)}, Final: []int{1}}
	for _, r := range []api.Recognizer{{States: 5}, {States: 1, Final: []int{0}}, noLeaf, notFinal} {
		if text, e := pleat.First(r); text != "" || e != api.ErrNone {
			t.Errorf("First = %s, %d", text, e)
		}
		for _, two := range [][2]api.Recognizer{{r, all()}, {all(), r}} {
			if text, e := pleat.Common(two[0], two[1]); text != "" || e != api.ErrNone {
				t.Errorf("Common = %s, %d", text, e)
			}
		}
		if is, text, e := pleat.Include(r, r); !is || text != "" || e != api.OK {
			t.Errorf("Include = %t, %s, %d", is, text, e)
		}
		if is, text, e := pleat.Include(chain(), r); is || text != "x" || e != api.OK {
			t.Errorf("Include = %t, %s, %d", is, text, e)
		}
		if n, e := pleat.Least(r); n != 1 || e != api.OK {
			t.Errorf("Least = %d, %d", n, e)
		}
	}
}

// Among trees of one size the text decides: f before g before x before y, and the left part of g before the right one.
func TestFirstOfOneSize(t *testing.T) {
	ab := api.Recognizer{States: 2, Rules: []api.Leaf{rule('y', 0), rule('x', 1), rule('f', 1, 0)}}
	for _, x := range []struct {
		rules []api.Leaf
		want  string
	}{
		{nil, "x"},
		{[]api.Leaf{rule('g', 2, 0, 0)}, "g(y,y)"},
		{[]api.Leaf{rule('g', 2, 0, 1)}, "g(y,x)"},
		{[]api.Leaf{rule('g', 2, 0, 1), rule('g', 2, 1, 0)}, "g(x,y)"},
		{[]api.Leaf{rule('f', 1, 1), rule('g', 2, 0, 1), rule('g', 2, 1, 1)}, "g(x,x)"},
		{[]api.Leaf{rule('g', 3, 1, 1), rule('f', 3, 4), rule('f', 4, 1), rule('f', 2, 3)}, "f(f(f(x)))"},
		{[]api.Leaf{rule('g', 3, 1, 1), rule('f', 4, 0), rule('f', 2, 3), rule('g', 2, 4, 0), rule('g', 2, 1, 4)}, "f(g(x,x))"},
		{[]api.Leaf{rule('f', 4, 0), rule('g', 2, 4, 0), rule('g', 2, 1, 4)}, "g(f(y),y)"},
	} {
		r := copied(ab)
		r.States, r.Rules, r.Final = 5, append(r.Rules, x.rules...), []int{2}
		if x.rules == nil {
			r.Final = []int{0, 1}
		}
		if text, e := pleat.First(r); text != x.want || e != api.OK {
			t.Errorf("First = %s, %d, not %s", text, e, x.want)
		}
		checkFirst(t, r)
	}
}

// modulo accepts chains of folds whose number is rest modulo n.
func modulo(n, rest int) api.Recognizer {
	r := api.Recognizer{States: n, Rules: []api.Leaf{rule('x', 0)}, Final: []int{rest}}
	for i := range n {
		r.Rules = append(r.Rules, rule('f', (i+1)%n, i))
	}
	return r
}

// The Chinese remainder says how many folds the first common tree has.
func TestRemainders(t *testing.T) {
	for a := 1; a <= 5; a++ {
		for b := 1; b <= 5; b++ {
			for i := range a * b {
				checkRemainders(t, a, i%a, b, i/a)
			}
		}
	}
}

func checkRemainders(t *testing.T, a, i, b, j int) {
	t.Helper()
	want, code := "", api.ErrNone
	for folds := a*b - 1; folds >= 0; folds-- {
		if folds%a == i && folds%b == j {
			want, code = strings.Repeat("f(", folds)+"x"+strings.Repeat(")", folds), api.OK
		}
	}
	if text, e := pleat.Common(modulo(a, i), modulo(b, j)); text != want || e != code {
		t.Errorf("%d modulo %d and %d modulo %d: %s, %d", i, a, j, b, text, e)
	}
	others := modulo(b, j)
	others.Final = slices.DeleteFunc([]int{0, 1, 2, 3, 4}[:b], func(state int) bool { return state == j })
	is, text, e := pleat.Include(modulo(a, i), others)
	if is != (want == "") || text != want || e != api.OK {
		t.Errorf("%d modulo %d without %d modulo %d: %t, %s, %d", i, a, j, b, is, text, e)
	}
}

// steps has one state for each number of levels modulo n. On a tree with a state come an f, or a g with two such trees, as the letters for the state say.
func steps(letters []string, rest int) api.Recognizer {
	n := len(letters)
	r := api.Recognizer{States: n, Rules: []api.Leaf{rule('x', 0)}, Final: []int{rest}}
	for i, symbols := range letters {
		if strings.Contains(symbols, "f") {
			r.Rules = append(r.Rules, rule('f', (i+1)%n, i))
		}
		if strings.Contains(symbols, "g") {
			r.Rules = append(r.Rules, rule('g', (i+1)%n, i, i))
		}
	}
	return r
}

// outside accepts all trees that steps does not: of four letters it has five states, one for the trees that have none in steps.
func outside(letters []string, rest int) api.Recognizer {
	return determined(steps(letters, rest), true)
}

// The first common trees have 9 levels: the first one of 200 symbols, the second one of 201.
func TestGreatestTrees(t *testing.T) {
	r := steps([]string{"fg", "fg", "fg", "fg", "fg"}, 4)
	letters := []string{"f", "g", "g", "g"}
	text, e := pleat.Common(r, steps(letters, 1))
	if symbols(text) != 200 || e != api.OK {
		t.Errorf("Common = %s, %d", text, e)
	}
	checkCommon(t, r, steps(letters, 1))
	if is, other, e := pleat.Include(r, outside(letters, 1)); is || other != text || e != api.OK {
		t.Errorf("Include = %t, %s, %d", is, other, e)
	}
	if is, e := pleat.Accepts(r, text); !is || e != api.OK {
		t.Errorf("Accepts(%s) = %t, %d", text, is, e)
	}

	r = steps([]string{"fg", "g", "fg", "g", "f"}, 4)
	letters = []string{"fg", "g", "g", "fg"}
	if want := expected(r, steps(letters, 1)); want.size != 201 {
		t.Errorf("%v", want)
	}
	if text, e := pleat.Common(r, steps(letters, 1)); text != "" || e != api.ErrFull {
		t.Errorf("Common = %s, %d", text, e)
	}
	if is, text, e := pleat.Include(r, outside(letters, 1)); is || text != "" || e != api.ErrFull {
		t.Errorf("Include = %t, %s, %d", is, text, e)
	}
}

// First trees of up to 2^20 symbols.
func TestSteps(t *testing.T) {
	x := rand.New(rand.NewSource(56))
	some := func(n int) []string {
		var letters []string
		for range n {
			letters = append(letters, []string{"f", "g", "g", "fg"}[x.Intn(4)])
		}
		return letters
	}
	sizes := map[bool]int{}
	for range 600 {
		r, letters, rest := steps(some(5), x.Intn(5)), some(4), x.Intn(4)
		checkCommon(t, r, steps(letters, rest))
		checkInclude(t, r, outside(letters, rest))
		sizes[expected(r, steps(letters, rest)).size > 200]++
	}
	if sizes[true] < 20 || sizes[false] < 20 {
		t.Errorf("%v", sizes)
	}
}
