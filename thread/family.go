package thread

import (
	"cmp"
	"slices"
	"strings"

	"ticking/api"
)

// maxMember is the number of letters that a word of a family may have.
const maxMember = 8

// maxFree is the greatest length of words that Free counts.
const maxFree = 30

func isFamily(words []string) bool {
	if len(words) > api.MaxFamily {
		return false
	}
	for _, word := range words {
		if len(word) > maxMember || !isWord(word) {
			return false
		}
	}
	return true
}

// Minimal returns the words of the list of which no different one in the list is a subsequence.
func Minimal(words []string) ([]string, api.Errno) {
	if !isFamily(words) {
		return nil, api.ErrArg
	}
	var least []string
	for _, word := range words {
		if !slices.Contains(least, word) && !isAboveAny(word, words) {
			least = append(least, word)
		}
	}
	slices.SortFunc(least, compareWords)
	return least, api.OK
}

// isAboveAny reports whether one of the words, but not the word itself, is a subsequence of the word.
func isAboveAny(word string, words []string) bool {
	return slices.ContainsFunc(words, func(other string) bool {
		_, err := Within(other, word)
		return other != word && err == api.OK
	})
}

func compareWords(u, w string) int {
	return cmp.Or(cmp.Compare(len(u), len(w)), strings.Compare(u, w))
}

// progress holds how many letters of each word of a family have been met.
type progress [api.MaxFamily]int

// Free returns, for each length from 0 to n, how many words of the first k letters have none of the words as a subsequence.
func Free(words []string, k, n int) ([]int, api.Errno) {
	if !isFamily(words) || !isLetters(k) || n < 0 || n > maxFree {
		return nil, api.ErrArg
	}
	// The empty word is met before the first letter.
	free := map[progress]int{}
	if !slices.Contains(words, "") {
		free[progress{}] = 1
	}
	totals := []int{total(free)}
	for range n {
		free = longer(words, k, free)
		totals = append(totals, total(free))
	}
	return totals, api.OK
}

// longer counts the free words that have one letter more than those counted in free.
func longer(words []string, k int, free map[progress]int) map[progress]int {
	next := map[progress]int{}
	for met, n := range free {
		for letter := range k {
			if now, ok := met.with(words, byteOf(letter)); ok {
				next[now] += n
			}
		}
	}
	return next
}

// with returns what has been met after one more letter; false if it completes a word.
func (met progress) with(words []string, letter byte) (progress, bool) {
	for i, word := range words {
		if word[met[i]] != letter {
			continue
		}
		met[i]++
		if met[i] == len(word) {
			return progress{}, false
		}
	}
	return met, true
}

func total(free map[progress]int) int {
	sum := 0
	for _, n := range free {
		sum += n
	}
	return sum
}
