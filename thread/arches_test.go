package thread_test

import (
	"math/rand"
	"slices"
	"strings"
	"testing"

	"ticking/api"
	"ticking/thread"
)

const firstLetters = "abcd"

// archesByDefinition cuts the shortest beginnings with all of the first k letters off the word.
func archesByDefinition(w string, k int) []int {
	var ends []int
	from := 0
	for to := range len(w) + 1 {
		if hasAll(w[from:to], k) {
			ends = append(ends, to-1)
			from = to
		}
	}
	return ends
}

func hasAll(part string, k int) bool {
	for _, letter := range firstLetters[:k] {
		if !strings.ContainsRune(part, letter) {
			return false
		}
	}
	return true
}

func absentByDefinition(w string, k int) string {
	for word := range words(k, len(w)+1) {
		if !isLeftOf(word, w) {
			return word
		}
	}
	return "none"
}

func TestArchesAndAbsentExamples(t *testing.T) {
	if ends, err := thread.Arches("abbacab", 3); !slices.Equal(ends, []int{4}) || err != api.OK {
		t.Errorf("Arches = %v, %d", ends, err)
	}
	if word, err := thread.Absent("abbacab", 3); word != "cc" || err != api.OK {
		t.Errorf("Absent = %q, %d", word, err)
	}
	for k := 1; k <= 4; k++ {
		if ends, err := thread.Arches("", k); len(ends) > 0 || err != api.OK {
			t.Errorf("Arches of nothing = %v, %d", ends, err)
		}
		if word, err := thread.Absent("", k); word != "a" || err != api.OK {
			t.Errorf("Absent of nothing = %q, %d", word, err)
		}
	}
}

func TestArchesAndAbsentOfAllSmallWords(t *testing.T) {
	for k, n := range []int{0, 9, 8, 7, 6} {
		if k == 0 {
			continue
		}
		for w := range words(k, n) {
			ends, err := thread.Arches(w, k)
			if !slices.Equal(ends, archesByDefinition(w, k)) || err != api.OK {
				t.Fatalf("Arches(%q, %d) = %v, %d; right is %v", w, k, ends, err, archesByDefinition(w, k))
			}
			word, err := thread.Absent(w, k)
			if word != absentByDefinition(w, k) || err != api.OK {
				t.Fatalf("Absent(%q, %d) = %q, %d; right is %q", w, k, word, err, absentByDefinition(w, k))
			}
			if len(word) != len(ends)+1 {
				t.Fatalf("Absent(%q, %d) = %q, but there are %d arches", w, k, word, len(ends))
			}
		}
	}
}

func TestArchesOfWordsWithFewerLettersThanAreAskedFor(t *testing.T) {
	for k := 2; k <= 4; k++ {
		for w := range words(k-1, 4) {
			if ends, err := thread.Arches(w, k); len(ends) > 0 || err != api.OK {
				t.Fatalf("Arches(%q, %d) = %v, %d", w, k, ends, err)
			}
		}
	}
}

func TestArchesAndAbsentRefuseOtherLetters(t *testing.T) {
	for k := 1; k <= 3; k++ {
		for w := range words(4, 4) {
			right := api.OK
			if strings.Trim(w, firstLetters[:k]) != "" {
				right = api.ErrArg
			}
			ends, err := thread.Arches(w, k)
			if err != right || err != api.OK && len(ends) > 0 {
				t.Fatalf("Arches(%q, %d) = %v, %d", w, k, ends, err)
			}
			word, err := thread.Absent(w, k)
			if err != right || (err == api.OK) == (word == "") {
				t.Fatalf("Absent(%q, %d) = %q, %d", w, k, word, err)
			}
		}
	}
}

func TestArchesAndAbsentOfLongWords(t *testing.T) {
	if word, err := thread.Absent(strings.Repeat("a", 60), 1); word != strings.Repeat("a", 61) || err != api.OK {
		t.Errorf("Absent = %q, %d", word, err)
	}
	r := rand.New(rand.NewSource(8))
	for range 300 {
		k := 1 + r.Intn(4)
		w := someWord(r, k, 40+r.Intn(21))
		ends, err := thread.Arches(w, k)
		if !slices.Equal(ends, archesByDefinition(w, k)) || err != api.OK {
			t.Fatalf("Arches(%q, %d) = %v, %d; right is %v", w, k, ends, err, archesByDefinition(w, k))
		}
		word, err := thread.Absent(w, k)
		if err != api.OK || len(word) != len(ends)+1 || isLeftOf(word, w) || strings.Trim(word, firstLetters[:k]) != "" {
			t.Fatalf("Absent(%q, %d) = %q, %d, with %d arches", w, k, word, err, len(ends))
		}
		if len(word) < 9 && word != absentByDefinition(w, k) {
			t.Fatalf("Absent(%q, %d) = %q; right is %q", w, k, word, absentByDefinition(w, k))
		}
	}
}
