package thread

import (
	"slices"

	"ticking/api"
)

// Arches returns the positions at which the arches of w for the first k letters end.
func Arches(w string, k int) ([]int, api.Errno) {
	if !isWord(w) || !isLetters(k) || !hasOnly(w, k) {
		return nil, api.ErrArg
	}
	s := stepsOf(w)
	var ends []int
	for p := slices.Max(s[0][:k]); p != lost; p = slices.Max(s[p][:k]) {
		ends = append(ends, p-1)
	}
	return ends, api.OK
}

// Absent returns the first word of the first k letters that is not a subsequence of w.
func Absent(w string, k int) (string, api.Errno) {
	if !isWord(w) || !isLetters(k) || !hasOnly(w, k) {
		return "", api.ErrArg
	}
	// The other steps all lead to place 0, as if every word were a subsequence there.
	both := twoWords{stepsOf(w), steps{}}
	word, _ := both.firstOfOne(k)
	return word, api.OK
}
