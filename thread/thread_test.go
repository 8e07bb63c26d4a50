package thread_test

import (
	"iter"
	"math"
	"math/rand"
	"slices"
	"strings"
	"testing"

	"ticking/api"
	"ticking/thread"
)

// words ranges over all words of the first k letters that have at most n letters, in the order of words.
func words(k, n int) iter.Seq[string] {
	return func(yield func(string) bool) {
		layer := []string{""}
		for range n + 1 {
			var next []string
			for _, word := range layer {
				if !yield(word) {
					return
				}
				for letter := range k {
					next = append(next, word+string(rune('a'+letter)))
				}
			}
			layer = next
		}
	}
}

func someWord(r *rand.Rand, k, n int) string {
	word := make([]byte, n)
	for i := range word {
		word[i] = byte('a' + r.Intn(k))
	}
	return string(word)
}

// subsequences returns the set of what is left of the word if letters are left out, by trying each choice of letters.
func subsequences(word string) map[string]bool {
	all := map[string]bool{}
	for choice := range 1 << len(word) {
		var left []byte
		for i := range len(word) {
			if choice>>i&1 == 1 {
				left = append(left, word[i])
			}
		}
		all[string(left)] = true
	}
	return all
}

// isLeftOf reports whether u is a subsequence of w, from the end on.
func isLeftOf(u, w string) bool {
	if u == "" {
		return true
	}
	at := strings.LastIndexByte(w, u[len(u)-1])
	return at >= 0 && isLeftOf(u[:len(u)-1], w[:at])
}

func compareWords(u, w string) int {
	if len(u) != len(w) {
		return len(u) - len(w)
	}
	return strings.Compare(u, w)
}

var notWords = []string{"e", "`", "A", "abe", "dda d", "ab\x00", "\xff", "é", "1", strings.Repeat("a", 61), strings.Repeat("abcd", 100000)}

func TestStringsThatAreNoWords(t *testing.T) {
	for _, bad := range notWords {
		for _, args := range [][2]string{{bad, "ab"}, {"ab", bad}, {"", bad}, {bad, ""}, {bad, bad}} {
			if positions, err := thread.Within(args[0], args[1]); len(positions) > 0 || err != api.ErrArg {
				t.Errorf("Within(%.70q) = %v, %d", args, positions, err)
			}
			if index, err := thread.Index(args[0], args[1]); index != 0 || err != api.ErrArg {
				t.Errorf("Index(%.70q) = %d, %d", args, index, err)
			}
			if common, err := thread.Longest(args[0], args[1]); common != "" || err != api.ErrArg {
				t.Errorf("Longest(%.70q) = %q, %d", args, common, err)
			}
			if word, err := thread.Differ(args[0], args[1]); word != "" || err != api.ErrArg {
				t.Errorf("Differ(%.70q) = %q, %d", args, word, err)
			}
			if same, err := thread.Same(args[0], args[1], 0); same || err != api.ErrArg {
				t.Errorf("Same(%.70q) = %v, %d", args, same, err)
			}
		}
		if n, err := thread.Count(bad); n != 0 || err != api.ErrArg {
			t.Errorf("Count(%.70q) = %d, %d", bad, n, err)
		}
		if item, err := thread.Item(bad, 0); item != "" || err != api.ErrArg {
			t.Errorf("Item(%.70q) = %q, %d", bad, item, err)
		}
		if ends, err := thread.Arches(bad, 4); len(ends) > 0 || err != api.ErrArg {
			t.Errorf("Arches(%.70q) = %v, %d", bad, ends, err)
		}
		if word, err := thread.Absent(bad, 4); word != "" || err != api.ErrArg {
			t.Errorf("Absent(%.70q) = %q, %d", bad, word, err)
		}
		for _, list := range [][]string{{bad}, {"ab", bad}, {"", "a", bad, "b"}} {
			if least, err := thread.Minimal(list); len(least) > 0 || err != api.ErrArg {
				t.Errorf("Minimal(%.70q) = %q, %d", list, least, err)
			}
			if totals, err := thread.Free(list, 4, 3); len(totals) > 0 || err != api.ErrArg {
				t.Errorf("Free(%.70q) = %v, %d", list, totals, err)
			}
		}
	}
}

func TestNumbersOfLettersThatAreNone(t *testing.T) {
	for _, k := range []int{0, 5, -1, 26, math.MaxInt, math.MinInt, 256 + 1} {
		if ends, err := thread.Arches("", k); len(ends) > 0 || err != api.ErrArg {
			t.Errorf("Arches with %d letters = %v, %d", k, ends, err)
		}
		if word, err := thread.Absent("", k); word != "" || err != api.ErrArg {
			t.Errorf("Absent with %d letters = %q, %d", k, word, err)
		}
		if totals, err := thread.Free(nil, k, 0); len(totals) > 0 || err != api.ErrArg {
			t.Errorf("Free with %d letters = %v, %d", k, totals, err)
		}
	}
}

func TestSixtyLettersAreAWord(t *testing.T) {
	word := strings.Repeat("dcba", 15)
	if positions, err := thread.Within(word, word); len(positions) != 60 || positions[59] != 59 || err != api.OK {
		t.Errorf("Within = %v, %d", positions, err)
	}
	if common, err := thread.Longest(word, word); common != word || err != api.OK {
		t.Errorf("Longest = %q, %d", common, err)
	}
	if ends, err := thread.Arches(word, 4); len(ends) != 15 || ends[14] != 59 || err != api.OK {
		t.Errorf("Arches = %v, %d", ends, err)
	}
	if same, err := thread.Same(word, word, 60); !same || err != api.OK {
		t.Errorf("Same = %v, %d", same, err)
	}
	if _, err := thread.Differ(word, word); err != api.ErrNone {
		t.Errorf("Differ: %d", err)
	}
}

func TestResultsAreNewAndArgumentsStay(t *testing.T) {
	list := []string{"dab", "b", "ab", "b"}
	kept := slices.Clone(list)
	first, _ := thread.Minimal(list)
	second, _ := thread.Minimal(list)
	first[0] = "changed"
	if slices.Equal(first, second) || !slices.Equal(list, kept) {
		t.Errorf("Minimal left %q, and %q beside %q", list, first, second)
	}
	ones, _ := thread.Free(list, 4, 5)
	twos, _ := thread.Free(list, 4, 5)
	ones[5] = -1
	if slices.Equal(ones, twos) || !slices.Equal(list, kept) {
		t.Errorf("Free left %q, and %v beside %v", list, ones, twos)
	}
}
