package turns

import "iter"

// direction returns what turns the positions of a sequence of this length into those of the same sequence in its own direction, or, if it is turned, in reverse order. It also leads back.
func direction(length int, turned bool) func(int) int {
	return func(at int) int {
		if turned {
			return length - 1 - at
		}
		return at
	}
}

// down goes through the numbers from n to 1.
func down(n int) iter.Seq[int] {
	return func(yield func(int) bool) {
		for x := n; x > 0 && yield(x); x-- {
		}
	}
}
