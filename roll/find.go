package roll

import (
	"strings"

	"ticking/api"
)

// finds are the occurrences of a pattern in a text, and the beginning and the end of the text, which are too short for the pattern.
type finds struct {
	count, first int
	head, tail   string
}

// Find returns how often the pattern occurs in the text, and the first position at which it does.
func Find(r []api.Piece, pattern string) (int, int, api.Errno) {
	w, ok := read(r)
	if !ok || !isText(pattern, api.MaxPattern) {
		return 0, 0, api.ErrArg
	}
	found := make([]finds, len(r))
	for i, p := range r {
		if p.Letter != 0 {
			found[i] = inLetter(p.Letter, pattern)
		} else {
			found[i] = inBoth(found[p.A], found[p.B], w.sizes[p.A], pattern)
		}
	}
	whole := found[w.last()]
	return whole.count, whole.first, api.OK
}

// isText reports whether the text has from 1 to most letters, and nothing else.
func isText(text string, most int) bool {
	if len(text) < 1 || len(text) > most {
		return false
	}
	for i := range len(text) {
		if !isLetter(text[i]) {
			return false
		}
	}
	return true
}

func inLetter(letter byte, pattern string) finds {
	text := string([]byte{letter})
	count, first := occurrences(text, pattern)
	return finds{count, first, headOf(text, pattern), tailOf(text, pattern)}
}

// inBoth finds the pattern in a text of the given size followed by another one. As neither the end of the first one nor the beginning of the second one has room for the pattern, it occurs in both together only across the seam.
func inBoth(a, b finds, size int, pattern string) finds {
	count, first := occurrences(a.tail+b.head, pattern)
	both := finds{
		count: a.count + count + b.count,
		head:  headOf(a.head+b.head, pattern),
		tail:  tailOf(a.tail+b.tail, pattern),
	}
	switch {
	case a.count > 0:
		both.first = a.first
	case count > 0:
		both.first = size - len(a.tail) + first
	case b.count > 0:
		both.first = size + b.first
	}
	return both
}

// headOf returns the beginning of the text that is one letter shorter than the pattern, or all of the text.
func headOf(text, pattern string) string {
	return text[:min(len(text), len(pattern)-1)]
}

func tailOf(text, pattern string) string {
	return text[max(0, len(text)-len(pattern)+1):]
}

// occurrences returns how often the pattern occurs in a short text, and where it does first.
func occurrences(text, pattern string) (int, int) {
	count, first := 0, 0
	for at := range len(text) {
		if !strings.HasPrefix(text[at:], pattern) {
			continue
		}
		if count == 0 {
			first = at
		}
		count++
	}
	return count, first
}
