package pleat_test

import (
	"cmp"
	"math"
	"math/rand"
	"reflect"
	"slices"
	"strings"
	"testing"

	"ticking/api"
	"ticking/pleat"
)

// sample is a tree whose parts are other samples.
type sample struct {
	symbol byte
	parts  []*sample
	size   int
	text   string
}

func tree(symbol byte, parts ...*sample) *sample {
	s := &sample{symbol: symbol, parts: parts, size: 1}
	var texts []string
	for _, p := range parts {
		s.size += p.size
		texts = append(texts, p.text)
	}
	s.text = string(rune(symbol))
	if len(parts) > 0 {
		s.text += "(" + strings.Join(texts, ",") + ")"
	}
	return s
}

// smallTrees lists all trees of at most most symbols, in the order of trees.
func smallTrees(most int) []*sample {
	bySize := [][]*sample{nil}
	for size := 1; size <= most; size++ {
		var trees []*sample
		if size == 1 {
			trees = []*sample{tree('x'), tree('y')}
		}
		for _, t := range bySize[size-1] {
			trees = append(trees, tree('f', t))
		}
		for left := 1; left < size-1; left++ {
			for _, t := range bySize[left] {
				for _, u := range bySize[size-1-left] {
					trees = append(trees, tree('g', t, u))
				}
			}
		}
		slices.SortFunc(trees, func(t, u *sample) int { return strings.Compare(t.text, u.text) })
		bySize = append(bySize, trees)
	}
	return slices.Concat(bySize...)
}

// had follows the document: which states each of the trees has, of which the parts come before the whole.
func had(r api.Recognizer, trees []*sample) map[*sample][]int {
	states := map[*sample][]int{}
	for _, t := range trees {
		for state := range r.States {
			if hasState(r, t, state, states) {
				states[t] = append(states[t], state)
			}
		}
	}
	return states
}

func hasState(r api.Recognizer, t *sample, state int, states map[*sample][]int) bool {
	return slices.ContainsFunc(r.Rules, func(rule api.Leaf) bool {
		if rule.Symbol != t.symbol || rule.To != state {
			return false
		}
		for i, part := range t.parts {
			if !slices.Contains(states[part], rule.From[i]) {
				return false
			}
		}
		return true
	})
}

func isFinal(r api.Recognizer, states []int) bool {
	return slices.ContainsFunc(states, func(state int) bool { return slices.Contains(r.Final, state) })
}

func rule(symbol byte, to int, from ...int) api.Leaf {
	return api.Leaf{Symbol: symbol, From: from, To: to}
}

// chain is the first recognizer of the chapter's examples: it accepts x, f(x), f(f(x)) and so on.
func chain() api.Recognizer {
	return api.Recognizer{States: 1, Rules: []api.Leaf{rule('x', 0), rule('f', 0, 0)}, Final: []int{0}}
}

// withoutY is the second one.
func withoutY() api.Recognizer {
	r := chain()
	r.Rules = append(r.Rules, rule('g', 0, 0, 0))
	return r
}

// all accepts all trees.
func all() api.Recognizer {
	r := withoutY()
	r.Rules = append(r.Rules, rule('y', 0))
	return r
}

// someRecognizer has the number of states, and at most the number of rules.
func someRecognizer(x *rand.Rand, states, rules int) api.Recognizer {
	r := api.Recognizer{States: states}
	for range x.Intn(rules + 1) {
		to, a, b := x.Intn(states), x.Intn(states), x.Intn(states)
		switch x.Intn(5) {
		case 0:
			r.Rules = append(r.Rules, rule('x', to))
		case 1:
			r.Rules = append(r.Rules, rule('y', to))
		case 2:
			r.Rules = append(r.Rules, rule('f', to, a))
		default:
			r.Rules = append(r.Rules, rule('g', to, a, b))
		}
	}
	for state := range states {
		if x.Intn(2) == 0 {
			r.Final = append(r.Final, state)
		}
	}
	return r
}

// sparse and dense recognizers of all sizes take turns.
func someRecognizers(seed int64, count, states int) []api.Recognizer {
	x := rand.New(rand.NewSource(seed))
	var rs []api.Recognizer
	for range count {
		n := 1 + x.Intn(states)
		rs = append(rs, someRecognizer(x, n, n*(2+x.Intn(10))))
	}
	return rs
}

// invalidRecognizers are no recognizers, each for one reason.
func invalidRecognizers() []api.Recognizer {
	var rs []api.Recognizer
	for _, states := range []int{0, -1, 6, 64, math.MinInt, math.MaxInt} {
		rs = append(rs, api.Recognizer{States: states})
	}
	for _, wrong := range []api.Leaf{
		rule(0, 0), rule('a', 0), rule('X', 0), rule('h', 0, 0), rule('z', 0), rule(255, 0, 0, 0),
		rule('x', 0, 0), rule('y', 0, 0, 0), rule('f', 0), rule('f', 0, 0, 0), rule('g', 0), rule('g', 0, 0), rule('g', 0, 0, 0, 0),
		rule('x', -1), rule('y', 3), rule('f', 3, 0), rule('g', math.MaxInt, 0, 0), rule('x', math.MinInt), rule('x', 64),
		rule('f', 0, -1), rule('f', 0, 3), rule('g', 0, 3, 0), rule('g', 0, 0, 3), rule('g', 0, -1, 0), rule('g', 0, 0, math.MinInt), rule('f', 0, 64),
	} {
		rs = append(rs, api.Recognizer{States: 3, Rules: []api.Leaf{wrong}, Final: []int{0}})
		rs = append(rs, api.Recognizer{States: 3, Rules: []api.Leaf{rule('x', 0), wrong, rule('y', 2)}, Final: []int{0}})
	}
	for _, final := range [][]int{{-1}, {3}, {0, 3}, {0, 0}, {1, 0}, {0, 2, 1}, {2, 2}, {math.MinInt, 0}, {0, math.MaxInt}, {64}} {
		rs = append(rs, api.Recognizer{States: 3, Rules: []api.Leaf{rule('x', 0)}, Final: final})
	}
	many := api.Recognizer{States: 1, Final: []int{0}}
	for range 61 {
		many.Rules = append(many.Rules, rule('x', 0))
	}
	return append(rs, api.Recognizer{}, many)
}

// Every function, of every recognizer among its arguments: before wrong trees, and before other errors.
func TestInvalidRecognizers(t *testing.T) {
	ok := all()
	for i, r := range invalidRecognizers() {
		for _, text := range []string{"x", "", "h"} {
			if states, e := pleat.States(r, text); len(states) != 0 || e != api.ErrArg {
				t.Errorf("%d: States = %v, %d", i, states, e)
			}
			if is, e := pleat.Accepts(r, text); is || e != api.ErrArg {
				t.Errorf("%d: Accepts = %t, %d", i, is, e)
			}
			if classes, e := pleat.Classes(r, []string{"x", text}); len(classes) != 0 || e != api.ErrArg {
				t.Errorf("%d: Classes = %v, %d", i, classes, e)
			}
		}
		if text, e := pleat.First(r); text != "" || e != api.ErrArg {
			t.Errorf("%d: First = %s, %d", i, text, e)
		}
		for _, n := range []int{0, 25, 26, -1} {
			if counts, e := pleat.Count(r, n); len(counts) != 0 || e != api.ErrArg {
				t.Errorf("%d: Count = %v, %d", i, counts, e)
			}
		}
		for _, two := range [][2]api.Recognizer{{r, ok}, {ok, r}, {r, r}} {
			if is, text, e := pleat.Include(two[0], two[1]); is || text != "" || e != api.ErrArg {
				t.Errorf("%d: Include = %t, %s, %d", i, is, text, e)
			}
			if text, e := pleat.Common(two[0], two[1]); text != "" || e != api.ErrArg {
				t.Errorf("%d: Common = %s, %d", i, text, e)
			}
		}
		if n, e := pleat.Least(r); n != 0 || e != api.ErrArg {
			t.Errorf("%d: Least = %d, %d", i, n, e)
		}
		if is, e := pleat.Infinite(r); is || e != api.ErrArg {
			t.Errorf("%d: Infinite = %t, %d", i, is, e)
		}
	}
}

// Recognizers at the limits.
func TestWidestRecognizers(t *testing.T) {
	wide := api.Recognizer{States: 5, Final: []int{0, 1, 2, 3, 4}}
	for i := range 60 {
		wide.Rules = append(wide.Rules, rule('g', i%5, i%4, i%3))
	}
	wide.Rules[59] = rule('y', 4)
	for _, x := range []struct {
		r    api.Recognizer
		want []int
	}{
		{wide, []int{4}},
		{api.Recognizer{States: 1}, nil},
		{api.Recognizer{States: 5, Rules: []api.Leaf{{Symbol: 'y', From: []int{}, To: 4}}, Final: []int{}}, []int{4}},
	} {
		if states, e := pleat.States(x.r, "y"); !slices.Equal(states, x.want) || e != api.OK {
			t.Errorf("%v: States = %v, %d", x.r, states, e)
		}
	}
}

func checkStates(t *testing.T, r api.Recognizer, text string, want []int) {
	t.Helper()
	if states, e := pleat.States(r, text); !slices.Equal(states, want) || e != api.OK {
		t.Fatalf("States(%v, %s) = %v, %d, not %v", r, text, states, e, want)
	}
	if is, e := pleat.Accepts(r, text); is != isFinal(r, want) || e != api.OK {
		t.Fatalf("Accepts(%v, %s) = %t, %d", r, text, is, e)
	}
}

// P5.1: trees.
func TestStates(t *testing.T) {
	trees := smallTrees(5)
	for _, r := range someRecognizers(51, 800, 5) {
		states := had(r, trees)
		for _, s := range trees {
			checkStates(t, r, s.text, states[s])
		}
	}
}

// A rule that is there twice says nothing more.
func TestRulesTwice(t *testing.T) {
	r := chain()
	r.Rules = append(r.Rules, r.Rules...)
	if counts, e := pleat.Count(r, 3); !slices.Equal(counts, []int{0, 1, 1, 1}) || e != api.OK {
		t.Errorf("Count = %v, %d", counts, e)
	}
	checkStates(t, r, "f(x)", []int{0})
}

// Sums of all digits 0 to 2 modulo 5: many levels and both parts of g, in their order.
func TestStatesDeep(t *testing.T) {
	r := api.Recognizer{States: 5, Rules: []api.Leaf{rule('x', 1), rule('y', 3)}, Final: []int{2}}
	for i := range 5 {
		r.Rules = append(r.Rules, rule('f', (i+1)%5, i))
		for j := range 5 {
			r.Rules = append(r.Rules, rule('g', (i+2*j)%5, i, j))
		}
	}
	checkStates(t, r, strings.Repeat("f(", 199)+"x"+strings.Repeat(")", 199), []int{0})
	checkStates(t, r, strings.Repeat("f(", 196)+"g(x,y)"+strings.Repeat(")", 196), []int{3})
	checkStates(t, r, strings.Repeat("g(x,", 99)+"x"+strings.Repeat(")", 99), []int{0})
	checkStates(t, r, "g(y,g(x,f(y)))", []int{1})
	checkStates(t, r, "g(g(x,f(y)),y)", []int{0})
}

func checkNoTree(t *testing.T, text string) {
	t.Helper()
	r := all()
	if states, e := pleat.States(r, text); len(states) != 0 || e != api.ErrSyntax {
		t.Errorf("States(%q) = %v, %d", text, states, e)
	}
	if is, e := pleat.Accepts(r, text); is || e != api.ErrSyntax {
		t.Errorf("Accepts(%q) = %t, %d", text, is, e)
	}
	for _, trees := range [][]string{{text}, {"x", text}, {text, "x"}} {
		if classes, e := pleat.Classes(r, trees); len(classes) != 0 || e != api.ErrSyntax {
			t.Errorf("Classes(%q) = %v, %d", trees, classes, e)
		}
	}
}

func TestNoTrees(t *testing.T) {
	for _, text := range []string{
		"", " ", "z", "X", "f", "g", "f(", "f()", "f(x", "f x", "fx", "f(x,y)", "f(x))", "f(x)x", "(x)", "x)", "x(", "x()", "xx", "xy",
		"g(x)", "g(x,)", "g(,x)", "g(x,y", "g(x,y,x)", "g(xy)", "g(x;y)", "g(x y)", "gxy", "g((x,y))", "g(x,y)g(x,y)", "g(x,f)", "g(g,x)",
		"f(x )", "f( x)", "f (x)", " x", "x ", "g(x, y)", "x\n", "\x00", "x\x00", "h(x)", "f[x]", "f(x}", "F(x)", "\xff", "f(é)", ",", ")", "x,y",
	} {
		checkNoTree(t, text)
	}
}

// All short strings: those that are no trees, and those that are.
func TestShortStrings(t *testing.T) {
	texts := map[string]bool{}
	for _, s := range smallTrees(4) {
		texts[s.text] = true
	}
	r := all()
	var extend func(text string, more int)
	extend = func(text string, more int) {
		want := api.ErrSyntax
		if texts[text] {
			want = api.OK
		}
		if is, e := pleat.Accepts(r, text); is != texts[text] || e != want {
			t.Errorf("Accepts(%q) = %t, %d", text, is, e)
		}
		for _, c := range "xyfg(,)" {
			if more > 0 {
				extend(text+string(c), more-1)
			}
		}
	}
	extend("", 6)
}

// A byte that is changed, taken out or put in.
func TestAlmostTrees(t *testing.T) {
	texts := map[string]bool{}
	for _, s := range smallTrees(6) {
		texts[s.text] = true
	}
	const symbols = "xyfg(,) h"
	x := rand.New(rand.NewSource(52))
	for _, s := range smallTrees(5) {
		for range 50 {
			at, from := x.Intn(len(s.text)), x.Intn(len(symbols))
			text := s.text[:at] + symbols[from:from+x.Intn(2)] + s.text[at+x.Intn(2):]
			_, e := pleat.Accepts(all(), text)
			if (e == api.OK) != texts[text] || e != api.OK && e != api.ErrSyntax {
				t.Errorf("Accepts(%q): %d", text, e)
			}
		}
	}
}

// A tree has at most 200 symbols.
func TestTreeSizes(t *testing.T) {
	folds := func(n int, inner string) string {
		return strings.Repeat("f(", n) + inner + strings.Repeat(")", n)
	}
	seams := func(n int, inner string) string {
		return strings.Repeat("g(", n) + inner + strings.Repeat(",y)", n)
	}
	for _, text := range []string{folds(199, "x"), folds(197, "g(x,y)"), seams(99, "f(x)"), seams(99, "y")} {
		if is, e := pleat.Accepts(all(), text); !is || e != api.OK {
			t.Errorf("Accepts(%s) = %t, %d", text, is, e)
		}
		if classes, e := pleat.Classes(all(), []string{text}); !slices.Equal(classes, []int{0}) || e != api.OK {
			t.Errorf("Classes(%s) = %v, %d", text, classes, e)
		}
	}
	for _, text := range []string{
		folds(200, "x"), folds(198, "g(x,y)"), seams(100, "x"), seams(99, "f(f(x))"), "g(" + folds(99, "x") + "," + folds(99, "x") + ")",
		folds(1<<20, "x"), strings.Repeat("f(", 1<<20), strings.Repeat("g(x,", 1<<20), seams(1<<20, "x"),
	} {
		if is, e := pleat.Accepts(all(), text); is || e != api.ErrSyntax {
			t.Errorf("a tree of %d bytes: %t, %d", len(text), is, e)
		}
		if states, e := pleat.States(all(), text); len(states) != 0 || e != api.ErrSyntax {
			t.Errorf("a tree of %d bytes: %v, %d", len(text), states, e)
		}
		if classes, e := pleat.Classes(all(), []string{"x", text}); len(classes) != 0 || e != api.ErrSyntax {
			t.Errorf("a tree of %d bytes: %v, %d", len(text), classes, e)
		}
	}
}

// copied shares no memory with r.
func copied(r api.Recognizer) api.Recognizer {
	r.Rules = slices.Clone(r.Rules)
	for i := range r.Rules {
		r.Rules[i].From = slices.Clone(r.Rules[i].From)
	}
	r.Final = slices.Clone(r.Final)
	return r
}

// Arguments stay as they are, and results are the same when they are asked for again.
func TestArgumentsStay(t *testing.T) {
	rs := someRecognizers(53, 300, 5)
	trees := []string{"x", "g(x,y)", "f(y)", "x"}
	for i, r := range rs {
		s := rs[(i+1)%len(rs)]
		before, other, texts := copied(r), copied(s), slices.Clone(trees)
		first := results(r, s, trees)
		again := results(r, s, trees)
		if !reflect.DeepEqual(r, before) || !reflect.DeepEqual(s, other) || !slices.Equal(trees, texts) {
			t.Fatalf("%v has become %v, or %v has become %v", before, r, other, s)
		}
		if !reflect.DeepEqual(first, again) {
			t.Fatalf("%v, %v: %v and then %v", r, s, first, again)
		}
	}
}

// results are those of all functions; the lists among them are then overwritten.
func results(r, s api.Recognizer, trees []string) []any {
	states, e1 := pleat.States(r, trees[1])
	is, e2 := pleat.Accepts(r, trees[1])
	first, e3 := pleat.First(r)
	counts, e4 := pleat.Count(r, 9)
	holds, but, e5 := pleat.Include(r, s)
	common, e6 := pleat.Common(r, s)
	least, e7 := pleat.Least(r)
	classes, e8 := pleat.Classes(r, trees)
	endless, e9 := pleat.Infinite(r)
	out := []any{slices.Clone(states), is, first, slices.Clone(counts), holds, but, common, least, slices.Clone(classes), endless,
		[]api.Errno{e1, e2, e3, e4, e5, e6, e7, e8, e9}}
	for _, list := range [][]int{states, counts, classes} {
		for i := range list {
			list[i] = -7
		}
	}
	return out
}

func compareTrees(t, u *sample) int {
	return cmp.Or(cmp.Compare(t.size, u.size), strings.Compare(t.text, u.text))
}

func TestOracleOfTrees(t *testing.T) {
	trees := smallTrees(8)
	if !slices.IsSortedFunc(trees, compareTrees) || len(trees) != 2+2+6+14+42+122+382+1206 {
		t.Errorf("%d trees", len(trees))
	}
	if trees[0].text != "x" || trees[4].text != "f(f(x))" || trees[6].text != "g(x,x)" || trees[7].text != "g(x,y)" {
		t.Errorf("%v", trees[:8])
	}
}
