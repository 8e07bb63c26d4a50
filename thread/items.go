package thread

import "ticking/api"

// Within returns the first positions of w at which the letters of u stand, one after the other.
func Within(u, w string) ([]int, api.Errno) {
	if !isWord(u) || !isWord(w) {
		return nil, api.ErrArg
	}
	s := stepsOf(w)
	var positions []int
	p := 0
	for i := range len(u) {
		p = s[p][letterOf(u[i])]
		if p == lost {
			return nil, api.ErrNone
		}
		positions = append(positions, p-1)
	}
	return positions, api.OK
}

// counts holds, for every place in a word, the number of different subsequences of what comes after it; at lost not even the empty one is left.
type counts [lost + 1]int

func countsOf(word string, s *steps) counts {
	var n counts
	for p := len(word); p >= 0; p-- {
		n[p] = 1
		for _, next := range s[p] {
			n[p] += n[next]
		}
	}
	return n
}

// Count returns the number of different subsequences of w.
func Count(w string) (int, api.Errno) {
	if !isWord(w) {
		return 0, api.ErrArg
	}
	s := stepsOf(w)
	n := countsOf(w, &s)
	return n[0], api.OK
}

// Item returns the subsequence of w before which there are k others in lexicographic order.
func Item(w string, k int) (string, api.Errno) {
	if !isWord(w) {
		return "", api.ErrArg
	}
	s := stepsOf(w)
	n := countsOf(w, &s)
	if k < 0 || k >= n[0] {
		return "", api.ErrArg
	}
	var item []byte
	p := 0
	for k > 0 {
		k--
		letter := 0
		for k >= n[s[p][letter]] {
			k -= n[s[p][letter]]
			letter++
		}
		item = append(item, byteOf(letter))
		p = s[p][letter]
	}
	return string(item), api.OK
}

// Index returns how many subsequences of w come before u, which is one of them, in lexicographic order.
func Index(w, u string) (int, api.Errno) {
	if !isWord(w) || !isWord(u) {
		return 0, api.ErrArg
	}
	s := stepsOf(w)
	n := countsOf(w, &s)
	index, p := 0, 0
	for i := range len(u) {
		letter := letterOf(u[i])
		index++
		for _, next := range s[p][:letter] {
			index += n[next]
		}
		p = s[p][letter]
		if p == lost {
			return 0, api.ErrNone
		}
	}
	return index, api.OK
}
