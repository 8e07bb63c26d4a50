package roll_test

import (
	"math/rand"
	"strings"
	"testing"

	"ticking/api"
	"ticking/roll"
)

// P4.3: searching.

// found counts the positions at which the pattern stands, one by one.
func found(text, pattern string) (int, int) {
	count, first := 0, 0
	for at := len(text) - len(pattern); at >= 0; at-- {
		if text[at:at+len(pattern)] == pattern {
			count++
			first = at
		}
	}
	return count, first
}

func checkFind(t *testing.T, r []api.Piece, text, pattern string) {
	t.Helper()
	count, first := found(text, pattern)
	if n, at, e := roll.Find(r, pattern); n != count || at != first || e != api.OK {
		t.Fatalf("%v: Find(%s) = %d, %d, %d, not %d, %d", r, pattern, n, at, e, count, first)
	}
}

func TestFindSmall(t *testing.T) {
	var patterns []string
	for n := 1; n <= 5; n++ {
		for choice := range 1 << n {
			pattern := make([]byte, n)
			for i := range pattern {
				pattern[i] = byte('a' + choice>>i&1)
			}
			patterns = append(patterns, string(pattern))
		}
	}
	for r := range smallRolls(2, 4) {
		text := written(r)
		for _, pattern := range patterns {
			checkFind(t, r, text, pattern)
		}
	}
}

func TestFindSome(t *testing.T) {
	x := rand.New(rand.NewSource(42))
	for r := range someRolls(1500) {
		text := written(r)
		from := x.Intn(len(text))
		pattern := text[from:min(len(text), from+1+x.Intn(64))]
		checkFind(t, r, text, pattern)
		checkFind(t, r, text, pattern[:1])
		other := []byte(pattern)
		other[x.Intn(len(other))] = byte('a' + x.Intn(4))
		checkFind(t, r, text, string(other))
	}
}

func TestFindLong(t *testing.T) {
	b := doubled('b', 40)
	for _, n := range []int{1, 2, 63, 64} {
		if count, at, e := roll.Find(b, strings.Repeat("b", n)); count != 1<<40-n+1 || at != 0 || e != api.OK {
			t.Errorf("Find of %d = %d, %d, %d", n, count, at, e)
		}
	}
	if count, at, e := roll.Find(b, "a"); count != 0 || at != 0 || e != api.OK {
		t.Errorf("Find = %d, %d, %d", count, at, e)
	}
	z := append(doubled('b', 37), letter('z'), both(37, 38), both(39, 37), both(40, 40))
	const half = 1<<38 + 1
	for _, x := range []struct {
		pattern     string
		count, from int
	}{
		{"z", 2, 1 << 37},
		{"bz", 2, 1<<37 - 1},
		{"zb", 2, 1 << 37},
		{strings.Repeat("b", 63) + "z", 2, 1<<37 - 63},
		{"z" + strings.Repeat("b", 63), 2, 1 << 37},
		{"zz", 0, 0},
		{strings.Repeat("b", 64), 2*(1<<37-63) + 1<<38 - 63, 0},
	} {
		if count, at, e := roll.Find(z, x.pattern); count != x.count || at != x.from || e != api.OK {
			t.Errorf("Find(%s) = %d, %d, %d", x.pattern, count, at, e)
		}
	}
	late := append(z, letter('y'), both(41, 42))
	if count, at, e := roll.Find(late, "by"); count != 1 || at != 2*half-1 || e != api.OK {
		t.Errorf("Find = %d, %d, %d", count, at, e)
	}
}

func TestFindErrors(t *testing.T) {
	for _, pattern := range []string{"", strings.Repeat("a", 65), strings.Repeat("a", 100000), "A", "a`", "{a", "aä", "a ", "\x00", "a\xff"} {
		if n, at, e := roll.Find(abab(), pattern); n != 0 || at != 0 || e != api.ErrArg {
			t.Errorf("Find(%q) = %d, %d, %d", pattern, n, at, e)
		}
	}
	if n, at, e := roll.Find(abab(), strings.Repeat("az", 32)); n != 0 || at != 0 || e != api.OK {
		t.Errorf("Find = %d, %d, %d", n, at, e)
	}
}
