package roll

import (
	"cmp"

	"ticking/api"
)

// Equal reports whether two texts are equal.
func Equal(r, s []api.Piece) (bool, api.Errno) {
	if !areValid(r, s) {
		return false, api.ErrArg
	}
	_, letters := shrink(r, s)
	return letters[0] == letters[1], api.OK
}

func areValid(r, s []api.Piece) bool {
	_, first := sizes(r)
	_, second := sizes(s)
	return first && second
}

// Compare returns how many letters two texts have in common at their beginning, and -1, 0 or 1 if the first text is less than, equal to, or greater than the second one.
func Compare(r, s []api.Piece) (int, int, api.Errno) {
	if !areValid(r, s) {
		return 0, 0, api.ErrArg
	}
	names, letters := shrink(r, s)
	x := names.cursorAt(letters[0], 0)
	y := names.cursorAt(letters[1], 0)
	length := common(x, y)
	if x.done() || y.done() {
		return length, cmp.Compare(names.sizes[letters[0]], names.sizes[letters[1]]), api.OK
	}
	return length, cmp.Compare(x.next().letter, y.next().letter), api.OK
}

// Period returns the smallest divisor of the length by which the text can be moved so that it agrees with itself where both overlap.
func Period(r []api.Piece) (int, api.Errno) {
	w, ok := read(r)
	if !ok {
		return 0, api.ErrArg
	}
	names, letters := shrink(r)
	whole := letters[0]
	period := w.length()
	// The divisors that are periods are the multiples of the smallest one, so primes can be divided out one after the other.
	left := w.length()
	for prime := 2; left > 1; prime++ {
		if prime*prime > left {
			prime = left
		}
		for left%prime == 0 {
			left /= prime
			if names.isPeriod(whole, period/prime) {
				period /= prime
			}
		}
	}
	return period, api.OK
}

// isPeriod reports whether the text of a letter agrees with itself when it is moved.
func (n *names) isPeriod(letter, moved int) bool {
	beginning := n.cursorAt(letter, 0)
	end := n.cursorAt(letter, moved)
	return moved+common(beginning, end) == n.sizes[letter]
}
