package thread_test

import (
	"maps"
	"math"
	"math/rand"
	"slices"
	"strings"
	"testing"

	"ticking/api"
	"ticking/thread"
)

// firstPositions tries all lists of positions of w from a position on, in lexicographic order.
func firstPositions(u, w string, from int) ([]int, bool) {
	if u == "" {
		return nil, true
	}
	for i := from; i < len(w); i++ {
		if w[i] != u[0] {
			continue
		}
		if rest, ok := firstPositions(u[1:], w, i+1); ok {
			return append([]int{i}, rest...), true
		}
	}
	return nil, false
}

func TestWithinExamples(t *testing.T) {
	if positions, err := thread.Within("aba", "babcaba"); !slices.Equal(positions, []int{1, 2, 4}) || err != api.OK {
		t.Errorf("Within = %v, %d", positions, err)
	}
	if positions, err := thread.Within("", ""); len(positions) > 0 || err != api.OK {
		t.Errorf("Within of nothing = %v, %d", positions, err)
	}
	if positions, err := thread.Within("aab", "ababa"); !slices.Equal(positions, []int{0, 2, 3}) || err != api.OK {
		t.Errorf("Within = %v, %d", positions, err)
	}
	for _, u := range []string{"ba", "aaa", "d", "aabb"} {
		if positions, err := thread.Within(u, "aab"); len(positions) > 0 || err != api.ErrNone {
			t.Errorf("Within(%q) = %v, %d", u, positions, err)
		}
	}
}

func TestWithinFindsTheFirstPositions(t *testing.T) {
	for w := range words(3, 5) {
		for u := range words(4, 4) {
			positions, ok := firstPositions(u, w, 0)
			got, err := thread.Within(u, w)
			if !slices.Equal(got, positions) || (err == api.OK) != ok || (err == api.ErrNone) == ok {
				t.Fatalf("Within(%q, %q) = %v, %d; right is %v, %v", u, w, got, err, positions, ok)
			}
		}
	}
}

func TestCountItemIndexExamples(t *testing.T) {
	if n, err := thread.Count("abab"); n != 12 || err != api.OK {
		t.Errorf("Count = %d, %d", n, err)
	}
	if n, err := thread.Count(""); n != 1 || err != api.OK {
		t.Errorf("Count of nothing = %d, %d", n, err)
	}
	if item, err := thread.Item("", 0); item != "" || err != api.OK {
		t.Errorf("Item of nothing = %q, %d", item, err)
	}
	for k, item := range []string{"", "a", "ab", "abb", "b", "bb"} {
		if got, err := thread.Item("abb", k); got != item || err != api.OK {
			t.Errorf("Item %d = %q, %d", k, got, err)
		}
		if got, err := thread.Index("abb", item); got != k || err != api.OK {
			t.Errorf("Index of %q = %d, %d", item, got, err)
		}
	}
}

func TestItemsOfAllSmallWordsAreInOrder(t *testing.T) {
	for _, size := range [][2]int{{4, 5}, {3, 6}, {2, 9}} {
		for w := range words(size[0], size[1]) {
			checkItems(t, w)
		}
	}
	r := rand.New(rand.NewSource(1))
	for range 40 {
		checkItems(t, someWord(r, 2+r.Intn(3), 11))
	}
}

func checkItems(t *testing.T, w string) {
	t.Helper()
	items := slices.Sorted(maps.Keys(subsequences(w)))
	if n, err := thread.Count(w); n != len(items) || err != api.OK {
		t.Fatalf("Count(%q) = %d, %d; right is %d", w, n, err, len(items))
	}
	for k, item := range items {
		if got, err := thread.Item(w, k); got != item || err != api.OK {
			t.Fatalf("Item(%q, %d) = %q, %d; right is %q", w, k, got, err, item)
		}
		if got, err := thread.Index(w, item); got != k || err != api.OK {
			t.Fatalf("Index(%q, %q) = %d, %d; right is %d", w, item, got, err, k)
		}
	}
	for _, k := range []int{-1, len(items), len(items) + 1, math.MaxInt, math.MinInt} {
		if got, err := thread.Item(w, k); got != "" || err != api.ErrArg {
			t.Fatalf("Item(%q, %d) = %q, %d", w, k, got, err)
		}
	}
}

func TestIndexOfWhatIsNoSubsequence(t *testing.T) {
	for w := range words(3, 4) {
		items := subsequences(w)
		for u := range words(4, 4) {
			index, err := thread.Index(w, u)
			if items[u] != (err == api.OK) || !items[u] && (index != 0 || err != api.ErrNone) {
				t.Fatalf("Index(%q, %q) = %d, %d", w, u, index, err)
			}
		}
	}
}

// countByLast counts from the beginning on: each letter doubles the subsequences, less those that its last place had made.
func countByLast(w string) int {
	count := 1
	var made [256]int
	for i := range len(w) {
		before := count
		count += before - made[w[i]]
		made[w[i]] = before
	}
	return count
}

func TestItemsOfLongWords(t *testing.T) {
	r := rand.New(rand.NewSource(2))
	long := []string{strings.Repeat("abcd", 15), strings.Repeat("a", 60), strings.Repeat("ab", 30), strings.Repeat("d", 59) + "a"}
	for range 50 {
		long = append(long, someWord(r, 1+r.Intn(4), 50+r.Intn(11)))
	}
	for _, w := range long {
		n, err := thread.Count(w)
		if n != countByLast(w) || err != api.OK {
			t.Fatalf("Count(%q) = %d, %d; right is %d", w, n, err, countByLast(w))
		}
		before := ""
		for i, k := range []int{0, n / 7, n / 3, n / 2, r.Intn(n/4) + n/2, n - 2, n - 1} {
			item, err := thread.Item(w, k)
			if err != api.OK || !isLeftOf(item, w) || i > 0 && item < before {
				t.Fatalf("Item(%q, %d) = %q, %d", w, k, item, err)
			}
			before = item
			if index, err := thread.Index(w, item); index != k || err != api.OK {
				t.Fatalf("Index(%q, %q) = %d, %d; right is %d", w, item, index, err, k)
			}
		}
		if item, err := thread.Item(w, n); item != "" || err != api.ErrArg {
			t.Fatalf("Item(%q, %d) = %q, %d", w, n, item, err)
		}
	}
}

func TestALetterMoreAtMostDoublesTheCount(t *testing.T) {
	r := rand.New(rand.NewSource(3))
	for range 200 {
		w := someWord(r, 1+r.Intn(4), r.Intn(60))
		shorter, _ := thread.Count(w)
		for _, letter := range []string{"a", "b", "c", "d"} {
			if longer, err := thread.Count(w + letter); err != api.OK || longer <= shorter || longer > 2*shorter {
				t.Fatalf("Count(%q) = %d after %d, %d", w+letter, longer, shorter, err)
			}
		}
	}
}
