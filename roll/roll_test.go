package roll_test

import (
	"iter"
	"math"
	"math/rand"
	"slices"
	"strings"
	"testing"

	"ticking/api"
	"ticking/roll"
)

func letter(b byte) api.Piece { return api.Piece{Letter: b} }

func both(a, b int) api.Piece { return api.Piece{A: a, B: b} }

// abab is the roll of the document's first example.
func abab() []api.Piece {
	return []api.Piece{letter('a'), letter('b'), both(0, 1), both(2, 2)}
}

// doubled is a roll of a letter that is doubled some times.
func doubled(b byte, times int) []api.Piece {
	r := []api.Piece{letter(b)}
	for i := range times {
		r = append(r, both(i, i))
	}
	return r
}

// fibonacci is a roll of n pieces, each of which is the two before it, the latest one first.
func fibonacci(n int) []api.Piece {
	r := []api.Piece{letter('b'), letter('a')}
	for i := 2; i < n; i++ {
		r = append(r, both(i-1, i-2))
	}
	return r
}

// written writes out the text of a short roll.
func written(r []api.Piece) string {
	texts := make([]string, len(r))
	for i, p := range r {
		if p.Letter != 0 {
			texts[i] = string(rune(p.Letter))
		} else {
			texts[i] = texts[p.A] + texts[p.B]
		}
	}
	return texts[len(r)-1]
}

// isValid reports by the definition whether a roll is valid.
func isValid(r []api.Piece) bool {
	lengths := make([]float64, len(r))
	for i, p := range r {
		switch {
		case p.Letter != 0:
			if !strings.Contains("abcdefghijklmnopqrstuvwxyz", string(rune(p.Letter))) || p.A != 0 || p.B != 0 {
				return false
			}
			lengths[i] = 1
		case p.A < 0 || p.B < 0 || p.A >= i || p.B >= i:
			return false
		default:
			lengths[i] = lengths[p.A] + lengths[p.B]
		}
		if lengths[i] > math.Pow(2, 40) {
			return false
		}
	}
	return 1 <= len(r) && len(r) <= 64
}

// smallRolls ranges over all rolls of at most n pieces and the first k letters.
func smallRolls(k, n int) iter.Seq[[]api.Piece] {
	var extend func(r []api.Piece, yield func([]api.Piece) bool) bool
	extend = func(r []api.Piece, yield func([]api.Piece) bool) bool {
		if len(r) > 0 && !yield(slices.Clone(r)) {
			return false
		}
		if len(r) == n {
			return true
		}
		for i := range k {
			if !extend(append(r, letter(byte('a'+i))), yield) {
				return false
			}
		}
		for a := range r {
			for b := range r {
				if !extend(append(r, both(a, b)), yield) {
					return false
				}
			}
		}
		return true
	}
	return func(yield func([]api.Piece) bool) { extend(nil, yield) }
}

// someRoll makes a roll of n pieces from k letters on, whose pieces have at most most letters, and are mostly made of the latest pieces.
func someRoll(x *rand.Rand, k, n, most int) []api.Piece {
	var r []api.Piece
	var lengths []int
	for i := range k {
		r = append(r, letter(byte('a'+i)))
		lengths = append(lengths, 1)
	}
	for near := 1 + x.Intn(8); len(r) < n; near++ {
		a := max(0, len(r)-1-x.Intn(near))
		b := max(0, len(r)-1-x.Intn(near))
		for lengths[a]+lengths[b] > most {
			a, b = a/2, b/2
		}
		r = append(r, both(a, b))
		lengths = append(lengths, lengths[a]+lengths[b])
		if near > 10 {
			near = 1
		}
	}
	return r
}

// someRolls ranges over random rolls with texts that are short enough to be written out.
func someRolls(count int) iter.Seq[[]api.Piece] {
	return func(yield func([]api.Piece) bool) {
		x := rand.New(rand.NewSource(4))
		for range count {
			k := 1 + x.Intn(4)
			if !yield(someRoll(x, k, k+x.Intn(12), 3000)) {
				return
			}
		}
	}
}

// invalidRolls are rolls that are not valid, each for one reason.
func invalidRolls() [][]api.Piece {
	long := doubled('a', 40)
	wide := doubled('a', 39)
	for len(wide) < 64 {
		wide = append(wide, both(0, 0))
	}
	return [][]api.Piece{
		nil,
		{},
		{both(0, 0)},
		{letter('a'), both(0, 1)},
		{letter('a'), both(1, 0)},
		{letter('a'), both(0, 2), letter('a')},
		{letter('a'), both(-1, 0)},
		{letter('a'), both(0, -1)},
		{letter('a'), both(0, math.MaxInt)},
		{letter('a'), both(math.MinInt, 0)},
		{letter('`')},
		{letter('{')},
		{letter('A')},
		{letter(1)},
		{letter(255)},
		{letter('a'), letter('b'), {Letter: 'c', A: 1}},
		{letter('a'), letter('b'), {Letter: 'c', B: 1}},
		{{Letter: 'a', A: -1}},
		{{Letter: 'a', B: math.MinInt}},
		{letter('?'), letter('a')},
		append(slices.Clone(long), both(40, 0)),
		append(slices.Clone(long), both(40, 0), letter('a')),
		append(slices.Clone(long), both(40, 40)),
		doubled('a', 63),
		append(wide, letter('a')),
	}
}

// widestRolls are rolls at the limits.
func widestRolls() [][]api.Piece {
	wide := doubled('a', 40)
	for len(wide) < 64 {
		wide = append(wide, both(0, 0))
	}
	return [][]api.Piece{{letter('a')}, {letter('z')}, doubled('b', 40), wide, append(doubled('a', 39), both(39, 38))}
}

func TestOracleOfRolls(t *testing.T) {
	for i, r := range invalidRolls() {
		if isValid(r) {
			t.Errorf("roll %d is valid", i)
		}
	}
	for i, r := range widestRolls() {
		if !isValid(r) {
			t.Errorf("roll %d is not valid", i)
		}
	}
}

// Every function, of every roll among its arguments.
func TestInvalidRolls(t *testing.T) {
	ab := abab()
	for i, r := range invalidRolls() {
		if n, e := roll.Length(r); n != 0 || e != api.ErrArg {
			t.Errorf("%d: Length = %d, %d", i, n, e)
		}
		if b, e := roll.At(r, 0); b != 0 || e != api.ErrArg {
			t.Errorf("%d: At = %d, %d", i, b, e)
		}
		for _, to := range []int{0, 1, 5000} {
			if s, e := roll.Part(r, 0, to); s != "" || e != api.ErrArg {
				t.Errorf("%d: Part = %s, %d", i, s, e)
			}
			if c, e := roll.Cut(r, 0, to); len(c) != 0 || e != api.ErrArg {
				t.Errorf("%d: Cut = %v, %d", i, c, e)
			}
		}
		if l, e := roll.Letters(r); l != [26]int{} || e != api.ErrArg {
			t.Errorf("%d: Letters = %v, %d", i, l, e)
		}
		for _, two := range [][2][]api.Piece{{r, ab}, {ab, r}, {r, r}} {
			if is, e := roll.Equal(two[0], two[1]); is || e != api.ErrArg {
				t.Errorf("%d: Equal = %t, %d", i, is, e)
			}
			if n, order, e := roll.Compare(two[0], two[1]); n != 0 || order != 0 || e != api.ErrArg {
				t.Errorf("%d: Compare = %d, %d, %d", i, n, order, e)
			}
		}
		if n, at, e := roll.Find(r, "a"); n != 0 || at != 0 || e != api.ErrArg {
			t.Errorf("%d: Find = %d, %d, %d", i, n, at, e)
		}
		if c, e := roll.Turn(r); len(c) != 0 || e != api.ErrArg {
			t.Errorf("%d: Turn = %v, %d", i, c, e)
		}
		if n, e := roll.Period(r); n != 0 || e != api.ErrArg {
			t.Errorf("%d: Period = %d, %d", i, n, e)
		}
	}
}

func TestWidestRolls(t *testing.T) {
	for i, want := range []int{1, 1, 1 << 40, 2, 1<<39 + 1<<38} {
		if n, e := roll.Length(widestRolls()[i]); n != want || e != api.OK {
			t.Errorf("%d: Length = %d, %d", i, n, e)
		}
	}
}

// P4.1: reading.
func TestReadingSmall(t *testing.T) {
	for r := range smallRolls(2, 4) {
		checkReading(t, r)
	}
}

func checkReading(t *testing.T, r []api.Piece) {
	t.Helper()
	text := written(r)
	if n, e := roll.Length(r); n != len(text) || e != api.OK {
		t.Fatalf("%v: Length = %d, %d", r, n, e)
	}
	for at := -2; at < len(text)+2; at++ {
		b, e := roll.At(r, at)
		if at < 0 || at >= len(text) {
			if b != 0 || e != api.ErrArg {
				t.Fatalf("%v: At(%d) = %d, %d", r, at, b, e)
			}
		} else if b != text[at] || e != api.OK {
			t.Fatalf("%v: At(%d) = %c, %d", r, at, b, e)
		}
	}
	for from := -1; from <= len(text)+1; from++ {
		for to := -1; to <= len(text)+1; to++ {
			s, e := roll.Part(r, from, to)
			if from < 0 || from > to || to > len(text) {
				if s != "" || e != api.ErrArg {
					t.Fatalf("%v: Part(%d, %d) = %s, %d", r, from, to, s, e)
				}
			} else if s != text[from:to] || e != api.OK {
				t.Fatalf("%v: Part(%d, %d) = %s, %d", r, from, to, s, e)
			}
		}
	}
	checkLetters(t, r, text)
}

func checkLetters(t *testing.T, r []api.Piece, text string) {
	t.Helper()
	counts, e := roll.Letters(r)
	for i, n := range counts {
		if n != strings.Count(text, string(rune('a'+i))) || e != api.OK {
			t.Fatalf("%v: Letters = %v, %d", r, counts, e)
		}
	}
}

func TestReadingSome(t *testing.T) {
	x := rand.New(rand.NewSource(41))
	for r := range someRolls(1000) {
		text := written(r)
		if n, e := roll.Length(r); n != len(text) || e != api.OK {
			t.Fatalf("%v: Length = %d, %d", r, n, e)
		}
		at := x.Intn(len(text))
		if b, e := roll.At(r, at); b != text[at] || e != api.OK {
			t.Fatalf("%v: At(%d) = %c, %d", r, at, b, e)
		}
		from := x.Intn(len(text) + 1)
		to := from + x.Intn(len(text)-from+1)
		if s, e := roll.Part(r, from, to); s != text[from:to] || e != api.OK {
			t.Fatalf("%v: Part(%d, %d) = %s, %d", r, from, to, s, e)
		}
		checkLetters(t, r, text)
	}
}

func TestReadingLong(t *testing.T) {
	r := append(doubled('b', 39), letter('z'), both(39, 40), both(41, 38))
	const z = 1 << 39
	for at, want := range map[int]byte{0: 'b', z - 1: 'b', z: 'z', z + 1: 'b', z + z/2: 'b'} {
		if b, e := roll.At(r, at); b != want || e != api.OK {
			t.Errorf("At(%d) = %c, %d", at, b, e)
		}
	}
	for _, at := range []int{-1, z + z/2 + 1, math.MaxInt, math.MinInt} {
		if b, e := roll.At(r, at); b != 0 || e != api.ErrArg {
			t.Errorf("At(%d) = %c, %d", at, b, e)
		}
	}
	if s, e := roll.Part(r, z-2, z+3); s != "bbzbb" || e != api.OK {
		t.Errorf("Part = %s, %d", s, e)
	}
	if s, e := roll.Part(r, z-4000, z+96); s != strings.Repeat("b", 4000)+"z"+strings.Repeat("b", 95) || e != api.OK {
		t.Errorf("Part of 4096 letters: %d", e)
	}
	want := [26]int{1: z + z/2, 25: 1}
	if counts, e := roll.Letters(r); counts != want || e != api.OK {
		t.Errorf("Letters = %v, %d", counts, e)
	}
}

func TestPartErrors(t *testing.T) {
	r := doubled('b', 40)
	for _, x := range []struct {
		from, to int
		want     api.Errno
	}{
		{0, 4097, api.ErrFull},
		{1, 4097, api.OK},
		{0, 1 << 40, api.ErrFull},
		{0, 1<<40 + 1, api.ErrArg},
		{1<<40 - 4096, 1 << 40, api.OK},
		{1<<40 - 4096, 1<<40 + 1, api.ErrArg},
		{1 << 40, 1 << 40, api.OK},
		{1<<40 + 1, 1<<40 + 1, api.ErrArg},
		{-1, 0, api.ErrArg},
		{-1, 5000, api.ErrArg},
		{5000, 1, api.ErrArg},
		{math.MinInt, math.MaxInt, api.ErrArg},
		{math.MaxInt, math.MinInt, api.ErrArg},
	} {
		s, e := roll.Part(r, x.from, x.to)
		if e != x.want || e == api.OK && s != strings.Repeat("b", x.to-x.from) || e != api.OK && s != "" {
			t.Errorf("Part(%d, %d) = %d letters, %d", x.from, x.to, len(s), e)
		}
	}
}
