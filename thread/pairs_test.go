package thread_test

import (
	"math"
	"math/rand"
	"strings"
	"testing"

	"ticking/api"
	"ticking/thread"
)

func TestDifferAndSameExamples(t *testing.T) {
	if word, err := thread.Differ("ab", "ba"); word != "ab" || err != api.OK {
		t.Errorf("Differ = %q, %d", word, err)
	}
	if word, err := thread.Differ("", "d"); word != "d" || err != api.OK {
		t.Errorf("Differ = %q, %d", word, err)
	}
	for _, w := range []string{"", "a", "abba"} {
		if word, err := thread.Differ(w, w); word != "" || err != api.ErrNone {
			t.Errorf("Differ of %q and itself = %q, %d", w, word, err)
		}
	}
	for n, right := range []bool{true, true, true, false, false} {
		if same, err := thread.Same("aab", "aaab", n); same != right || err != api.OK {
			t.Errorf("Same with %d = %v, %d", n, same, err)
		}
	}
}

func TestSameWithNumbersAtTheEdge(t *testing.T) {
	for _, n := range []int{-1, -2, math.MinInt} {
		for _, w := range []string{"ab", "ba"} {
			if same, err := thread.Same("ab", w, n); same || err != api.ErrArg {
				t.Errorf("Same(ab, %s, %d) = %v, %d", w, n, same, err)
			}
		}
	}
	for _, n := range []int{0, 60, 61, math.MaxInt} {
		if same, err := thread.Same("ab", "ab", n); !same || err != api.OK {
			t.Errorf("Same of equal words with %d = %v, %d", n, same, err)
		}
		if same, err := thread.Same("ab", "ba", n); same != (n == 0) || err != api.OK {
			t.Errorf("Same of different words with %d = %v, %d", n, same, err)
		}
	}
}

// differByDefinition is the first word that is in one of the sets of subsequences only.
func differByDefinition(u, w map[string]bool) string {
	first, found := "", false
	for _, sets := range [][2]map[string]bool{{u, w}, {w, u}} {
		for word := range sets[0] {
			if !sets[1][word] && (!found || compareWords(word, first) < 0) {
				first, found = word, true
			}
		}
	}
	return first
}

func TestDifferAndSameOfAllSmallWords(t *testing.T) {
	sets := map[string]map[string]bool{}
	for _, size := range [][2]int{{3, 4}, {2, 6}, {4, 3}} {
		for w := range words(size[0], size[1]) {
			sets[w] = subsequences(w)
		}
	}
	for u := range sets {
		for w := range sets {
			checkDiffer(t, u, w, sets[u], sets[w])
		}
	}
}

func TestDifferAndSameOfSomeWords(t *testing.T) {
	r := rand.New(rand.NewSource(5))
	for range 100 {
		u := someWord(r, 2+r.Intn(3), 6+r.Intn(5))
		at := r.Intn(len(u))
		w := u[:at] + someWord(r, 2, r.Intn(3)) + u[at+1:]
		checkDiffer(t, u, w, subsequences(u), subsequences(w))
	}
}

func checkDiffer(t *testing.T, u, w string, us, ws map[string]bool) {
	t.Helper()
	right := differByDefinition(us, ws)
	word, err := thread.Differ(u, w)
	if u == w {
		if word != "" || err != api.ErrNone {
			t.Fatalf("Differ(%q, %q) = %q, %d", u, w, word, err)
		}
	} else if word != right || err != api.OK {
		t.Fatalf("Differ(%q, %q) = %q, %d; right is %q", u, w, word, err, right)
	}
	for n := range 13 {
		same, err := thread.Same(u, w, n)
		if same != (u == w || len(right) > n) || err != api.OK {
			t.Fatalf("Same(%q, %q, %d) = %v, %d; they differ in %q", u, w, n, same, err, right)
		}
	}
}

func TestDifferOfLongWords(t *testing.T) {
	r := rand.New(rand.NewSource(6))
	for range 300 {
		k := 1 + r.Intn(4)
		u := someWord(r, k, r.Intn(60))
		w := someWord(r, k, r.Intn(61))
		if r.Intn(2) == 0 {
			at := r.Intn(len(u) + 1)
			w = u[:at] + someWord(r, k, 1) + u[at:]
		}
		word, err := thread.Differ(u, w)
		if u == w {
			continue
		}
		if err != api.OK || isLeftOf(word, u) == isLeftOf(word, w) || len(word) > min(len(u), len(w))+1 {
			t.Fatalf("Differ(%q, %q) = %q, %d", u, w, word, err)
		}
		if back, err := thread.Differ(w, u); back != word || err != api.OK {
			t.Fatalf("Differ(%q, %q) = %q, but %q, %d the other way", u, w, word, back, err)
		}
	}
	u, w := strings.Repeat("a", 59), strings.Repeat("a", 60)
	if word, err := thread.Differ(u, w); word != w || err != api.OK {
		t.Errorf("Differ = %q, %d", word, err)
	}
}

func TestSameIsKeptByWhatIsBeforeAndAfterAndTransitive(t *testing.T) {
	var list []string
	for w := range words(2, 6) {
		list = append(list, w)
	}
	r := rand.New(rand.NewSource(7))
	for range 20000 {
		u, w, v, n := list[r.Intn(len(list))], list[r.Intn(len(list))], list[r.Intn(len(list))], r.Intn(4)
		if same, _ := thread.Same(u, w, n); !same {
			continue
		}
		before, after := someWord(r, 3, r.Intn(8)), someWord(r, 3, r.Intn(8))
		if same, err := thread.Same(before+u+after, before+w+after, n); !same || err != api.OK {
			t.Fatalf("%q and %q are the same up to %d, but not between %q and %q", u, w, n, before, after)
		}
		one, _ := thread.Same(w, v, n)
		if other, _ := thread.Same(u, v, n); one != other {
			t.Fatalf("%q and %q are the same up to %d, but only one is the same as %q", u, w, n, v)
		}
	}
}

// longestByDefinition is the first of the longest among all common subsequences.
func longestByDefinition(u, w map[string]bool) string {
	longest := ""
	for word := range u {
		if w[word] && (len(word) > len(longest) || len(word) == len(longest) && word < longest) {
			longest = word
		}
	}
	return longest
}

func TestLongestOfAllSmallWords(t *testing.T) {
	sets := map[string]map[string]bool{}
	for w := range words(3, 5) {
		sets[w] = subsequences(w)
	}
	for u := range sets {
		for w := range sets {
			if got, err := thread.Longest(u, w); got != longestByDefinition(sets[u], sets[w]) || err != api.OK {
				t.Fatalf("Longest(%q, %q) = %q, %d; right is %q", u, w, got, err, longestByDefinition(sets[u], sets[w]))
			}
		}
	}
}

// longestByWords keeps the first longest word of each two rests.
func longestByWords(u, w string) string {
	table := make([][]string, len(u)+1)
	for i := range table {
		table[i] = make([]string, len(w)+1)
	}
	for i := len(u) - 1; i >= 0; i-- {
		for j := len(w) - 1; j >= 0; j-- {
			best := table[i+1][j]
			offers := []string{table[i][j+1]}
			if u[i] == w[j] {
				offers = append(offers, u[i:i+1]+table[i+1][j+1])
			}
			for _, offer := range offers {
				if len(offer) > len(best) || len(offer) == len(best) && offer < best {
					best = offer
				}
			}
			table[i][j] = best
		}
	}
	return table[0][0]
}

func TestLongestOfLongWords(t *testing.T) {
	r := rand.New(rand.NewSource(4))
	for range 200 {
		k := 1 + r.Intn(4)
		u, w := someWord(r, k, r.Intn(61)), someWord(r, k, 40+r.Intn(21))
		if got, err := thread.Longest(u, w); got != longestByWords(u, w) || err != api.OK {
			t.Fatalf("Longest(%q, %q) = %q, %d; right is %q", u, w, got, err, longestByWords(u, w))
		}
	}
	if got, err := thread.Longest(strings.Repeat("a", 60), strings.Repeat("b", 60)); got != "" || err != api.OK {
		t.Errorf("Longest = %q, %d", got, err)
	}
}
