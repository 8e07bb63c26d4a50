package thread

import (
	"iter"

	"ticking/api"
)

// pair is a place in one word and a place in another one.
type pair struct {
	u, w int
}

// twoWords are the steps of two words that are read side by side.
type twoWords struct {
	u, w steps
}

func (t *twoWords) after(p pair, letter int) pair {
	return pair{t.u[p.u][letter], t.w[p.w][letter]}
}

// reached visits, in the order of words, the words of the first k letters, with the pairs of places to which they lead. It leaves out each word that leads where an earlier one led, and each one that is a subsequence of neither word: what follows such a word decides nothing new.
func (t *twoWords) reached(k int) iter.Seq2[string, pair] {
	type visit struct {
		word string
		at   pair
	}
	return func(yield func(string, pair) bool) {
		queue := []visit{{}}
		seen := map[pair]bool{}
		for len(queue) > 0 {
			v := queue[0]
			queue = queue[1:]
			if !yield(v.word, v.at) {
				return
			}
			for letter := range k {
				next := t.after(v.at, letter)
				if next == (pair{lost, lost}) || seen[next] {
					continue
				}
				seen[next] = true
				queue = append(queue, visit{v.word + string(byteOf(letter)), next})
			}
		}
	}
}

// firstOfOne returns the first word of the first k letters that is a subsequence of exactly one of the two words.
func (t *twoWords) firstOfOne(k int) (string, bool) {
	for word, at := range t.reached(k) {
		if (at.u == lost) != (at.w == lost) {
			return word, true
		}
	}
	return "", false
}

// Differ returns the first word that is a subsequence of exactly one of u and w.
func Differ(u, w string) (string, api.Errno) {
	if !isWord(u) || !isWord(w) {
		return "", api.ErrArg
	}
	both := twoWords{stepsOf(u), stepsOf(w)}
	word, found := both.firstOfOne(alphabet)
	if !found {
		return "", api.ErrNone
	}
	return word, api.OK
}

// Same reports whether u and w have the same subsequences of at most n letters.
func Same(u, w string, n int) (bool, api.Errno) {
	if !isWord(u) || !isWord(w) || n < 0 {
		return false, api.ErrArg
	}
	both := twoWords{stepsOf(u), stepsOf(w)}
	word, found := both.firstOfOne(alphabet)
	return !found || len(word) > n, api.OK
}

// Longest returns the lexicographically smallest one of the longest words that are subsequences of both u and w.
func Longest(u, w string) (string, api.Errno) {
	if !isWord(u) || !isWord(w) {
		return "", api.ErrArg
	}
	both := twoWords{stepsOf(u), stepsOf(w)}
	lengths := both.lengths(len(u), len(w))
	var common []byte
	for p := (pair{}); lengths[p] > 1; {
		letter := 0
		for lengths[both.after(p, letter)] != lengths[p]-1 {
			letter++
		}
		common = append(common, byteOf(letter))
		p = both.after(p, letter)
	}
	return string(common), api.OK
}

// lengths returns, for each pair of places in words of m and n letters, one more than the number of letters that the rests after them have in common at most, so that a pair with a lost place, which is no key, has less than every other one.
func (t *twoWords) lengths(m, n int) map[pair]int {
	lengths := map[pair]int{}
	for i := m; i >= 0; i-- {
		for j := n; j >= 0; j-- {
			p := pair{i, j}
			most := 0
			for letter := range alphabet {
				most = max(most, lengths[t.after(p, letter)])
			}
			lengths[p] = most + 1
		}
	}
	return lengths
}
