package thread_test

import (
	"math"
	"math/rand"
	"slices"
	"strings"
	"testing"

	"ticking/api"
	"ticking/thread"
)

func minimalByDefinition(list []string) []string {
	var least []string
	for _, word := range list {
		above := slices.ContainsFunc(list, func(other string) bool { return other != word && isLeftOf(other, word) })
		if !above {
			least = append(least, word)
		}
	}
	slices.SortFunc(least, compareWords)
	return slices.Compact(least)
}

func freeByDefinition(list []string, k, n int) []int {
	totals := make([]int, n+1)
	for w := range words(k, n) {
		if !slices.ContainsFunc(list, func(word string) bool { return isLeftOf(word, w) }) {
			totals[len(w)]++
		}
	}
	return totals
}

func someFamily(r *rand.Rand, k, most, longest int) []string {
	list := make([]string, r.Intn(most+1))
	for i := range list {
		list[i] = someWord(r, k, r.Intn(longest+1))
		if i > 0 && r.Intn(4) == 0 {
			list[i] = list[r.Intn(i)]
		}
	}
	return list
}

func TestMinimalExamples(t *testing.T) {
	for _, c := range []struct{ list, right []string }{
		{nil, nil},
		{[]string{""}, []string{""}},
		{[]string{"ab", "", "b"}, []string{""}},
		{[]string{"ba", "ab", "ba", "ab"}, []string{"ab", "ba"}},
		{[]string{"dcd", "aa", "b", "abc"}, []string{"b", "aa", "dcd"}},
		{[]string{"abcdabcd", "d", "d"}, []string{"d"}},
	} {
		if least, err := thread.Minimal(c.list); !slices.Equal(least, c.right) || err != api.OK {
			t.Errorf("Minimal(%q) = %q, %d", c.list, least, err)
		}
	}
}

func TestMinimalOfSomeFamilies(t *testing.T) {
	r := rand.New(rand.NewSource(9))
	for range 5000 {
		list := someFamily(r, 1+r.Intn(4), 4, 1+r.Intn(8))
		if least, err := thread.Minimal(list); !slices.Equal(least, minimalByDefinition(list)) || err != api.OK {
			t.Fatalf("Minimal(%q) = %q, %d; right is %q", list, least, err, minimalByDefinition(list))
		}
	}
}

func TestFreeExamples(t *testing.T) {
	for _, c := range []struct {
		list  []string
		k, n  int
		right []int
	}{
		{[]string{"ab"}, 2, 3, []int{1, 2, 3, 4}},
		{nil, 3, 4, []int{1, 3, 9, 27, 81}},
		{nil, 4, 0, []int{1}},
		{[]string{""}, 4, 2, []int{0, 0, 0}},
		{[]string{"", "ab"}, 1, 0, []int{0}},
		{[]string{"a", "b"}, 2, 2, []int{1, 0, 0}},
		{[]string{"c", "dd"}, 2, 3, []int{1, 2, 4, 8}},
		{[]string{"aa", "aa"}, 1, 3, []int{1, 1, 0, 0}},
		{[]string{"aaaaaaaa"}, 1, 9, []int{1, 1, 1, 1, 1, 1, 1, 1, 0, 0}},
	} {
		if totals, err := thread.Free(c.list, c.k, c.n); !slices.Equal(totals, c.right) || err != api.OK {
			t.Errorf("Free(%q, %d, %d) = %v, %d", c.list, c.k, c.n, totals, err)
		}
	}
}

func TestFreeOfSomeFamilies(t *testing.T) {
	r := rand.New(rand.NewSource(10))
	for range 400 {
		k, n := 1+r.Intn(4), r.Intn(7)
		list := someFamily(r, 1+r.Intn(4), 4, 4)
		if totals, err := thread.Free(list, k, n); !slices.Equal(totals, freeByDefinition(list, k, n)) || err != api.OK {
			t.Fatalf("Free(%q, %d, %d) = %v, %d; right is %v", list, k, n, totals, err, freeByDefinition(list, k, n))
		}
	}
}

// power and choose are small enough to be exact.
func power(base, n int) int {
	result := 1
	for range n {
		result *= base
	}
	return result
}

func choose(n, k int) int {
	result := 1
	for i := range k {
		result = result * (n - i) / (i + 1)
	}
	return result
}

// A word without u has some beginning of u, letter by letter at its first places, and other letters elsewhere.
func TestFreeOfOneWordDependsOnItsLengthAlone(t *testing.T) {
	r := rand.New(rand.NewSource(11))
	for k := 1; k <= 4; k++ {
		for size := 0; size <= 8; size++ {
			totals, err := thread.Free([]string{someWord(r, k, size)}, k, 30)
			if len(totals) != 31 || err != api.OK {
				t.Fatalf("Free = %v, %d", totals, err)
			}
			for n, got := range totals {
				right := 0
				for met := 0; met < size && met <= n; met++ {
					right += choose(n, met) * power(k-1, n-met)
				}
				if got != right {
					t.Errorf("%d words of %d of %d letters without one of %d letters; right is %d", got, n, k, size, right)
				}
			}
		}
	}
	if totals, err := thread.Free(nil, 4, 30); len(totals) != 31 || totals[30] != 1<<60 || err != api.OK {
		t.Errorf("Free of nothing = %v, %d", totals, err)
	}
}

func TestFreeOfReversedAndOfMinimalFamilies(t *testing.T) {
	r := rand.New(rand.NewSource(12))
	for range 10 {
		var list, reversed []string
		for range 4 {
			word := someWord(r, 4, 6+r.Intn(3))
			bytes := []byte(word)
			slices.Reverse(bytes)
			list, reversed = append(list, word), append(reversed, string(bytes))
		}
		least, _ := thread.Minimal(list)
		totals, err := thread.Free(list, 4, 30)
		for _, other := range [][]string{reversed, least} {
			if same, otherErr := thread.Free(other, 4, 30); !slices.Equal(same, totals) || err != api.OK || otherErr != api.OK {
				t.Errorf("Free(%q) = %v, %d, but %v, %d of %q", list, totals, err, same, otherErr, other)
			}
		}
	}
}

func TestFamiliesThatAreTooLarge(t *testing.T) {
	long := strings.Repeat("a", 9)
	for _, list := range [][]string{{long}, {"a", "b", "c", long}, {"a", "a", "a", "a", "a"}, make([]string, 5), make([]string, 1000000)} {
		if least, err := thread.Minimal(list); len(least) > 0 || err != api.ErrArg {
			t.Errorf("Minimal of %d words = %q, %d", len(list), least, err)
		}
		if totals, err := thread.Free(list, 4, 3); len(totals) > 0 || err != api.ErrArg {
			t.Errorf("Free of %d words = %v, %d", len(list), totals, err)
		}
	}
	if least, err := thread.Minimal([]string{long[1:], "b", "c", "d"}); len(least) != 4 || err != api.OK {
		t.Errorf("Minimal = %q, %d", least, err)
	}
}

func TestFreeWithLengthsAtTheEdge(t *testing.T) {
	for _, n := range []int{-1, 31, math.MaxInt, math.MinInt} {
		if totals, err := thread.Free([]string{"a"}, 2, n); len(totals) > 0 || err != api.ErrArg {
			t.Errorf("Free up to %d = %v, %d", n, totals, err)
		}
	}
	for _, n := range []int{0, 30} {
		if totals, err := thread.Free([]string{"a"}, 2, n); len(totals) != n+1 || err != api.OK {
			t.Errorf("Free up to %d = %v, %d", n, totals, err)
		}
	}
}
