package roll_test

import (
	"math"
	"math/rand"
	"slices"
	"strings"
	"testing"

	"ticking/api"
	"ticking/roll"
)

// P4.4: making.

func checkCut(t *testing.T, r []api.Piece, text string, from, to int) {
	t.Helper()
	before := slices.Clone(r)
	cut, e := roll.Cut(r, from, to)
	if from < 0 || from >= to || to > len(text) {
		if len(cut) != 0 || e != api.ErrArg {
			t.Fatalf("%v: Cut(%d, %d) = %v, %d", r, from, to, cut, e)
		}
		return
	}
	if e != api.OK || !isValid(cut) || written(cut) != text[from:to] {
		t.Fatalf("%v: Cut(%d, %d) = %v, %d", r, from, to, cut, e)
	}
	spoil(cut)
	if !slices.Equal(r, before) {
		t.Fatalf("%v: Cut(%d, %d) shares its memory", before, from, to)
	}
}

// spoil writes into a result, to show whether its memory is shared.
func spoil(r []api.Piece) {
	r = r[:cap(r)]
	for i := range r {
		r[i] = letter('!')
	}
}

func TestCutSmall(t *testing.T) {
	for r := range smallRolls(2, 4) {
		text := written(r)
		for from := -1; from <= len(text)+1; from++ {
			for to := -1; to <= len(text)+1; to++ {
				checkCut(t, r, text, from, to)
			}
		}
	}
}

func TestCutSome(t *testing.T) {
	x := rand.New(rand.NewSource(43))
	for r := range someRolls(2000) {
		text := written(r)
		from := x.Intn(len(text))
		checkCut(t, r, text, from, from+1+x.Intn(len(text)-from))
	}
}

// The deepest rolls of 20 pieces need the most pieces for a cut.
func TestCutDeepest(t *testing.T) {
	x := rand.New(rand.NewSource(44))
	late := fibonacci(20)
	early := slices.Clone(late)
	mixed := slices.Clone(late)
	for i := 2; i < 20; i++ {
		early[i] = both(i-2, i-1)
		if i%2 == 0 {
			mixed[i] = both(i-2, i-1)
		}
	}
	for _, r := range [][]api.Piece{late, early, mixed, doubled('a', 13)} {
		text := written(r)
		checkCut(t, r, text, 1, len(text)-1)
		for range 3000 {
			from := x.Intn(len(text))
			checkCut(t, r, text, from, from+1+x.Intn(len(text)-from))
		}
	}
	chain := []api.Piece{letter('a')}
	for i := range 19 {
		chain = append(chain, both(i, i))
	}
	if cut, e := roll.Cut(chain, 1, 1<<19-1); e != api.OK || !isValid(cut) || written(cut) != strings.Repeat("a", 1<<19-2) {
		t.Errorf("Cut of the longest roll: %d", e)
	}
}

func TestCutErrors(t *testing.T) {
	twenty, more := doubled('a', 19), doubled('a', 20)
	for _, x := range []struct {
		r        []api.Piece
		from, to int
		want     api.Errno
	}{
		{twenty, 0, 1 << 19, api.OK},
		{twenty, 0, 1<<19 + 1, api.ErrArg},
		{twenty, 3, 3, api.ErrArg},
		{twenty, 4, 3, api.ErrArg},
		{more, 0, 1 << 20, api.ErrFull},
		{more, 0, 1, api.ErrFull},
		{more, 0, 1<<20 + 1, api.ErrArg},
		{more, 3, 3, api.ErrArg},
		{more, -1, 3, api.ErrArg},
		{more, math.MinInt, math.MaxInt, api.ErrArg},
		{more, math.MaxInt, math.MinInt, api.ErrArg},
	} {
		if cut, e := roll.Cut(x.r, x.from, x.to); e != x.want || (e == api.OK) != (len(cut) > 0) {
			t.Errorf("Cut(%d, %d) = %v, %d", x.from, x.to, cut, e)
		}
	}
}

func reversed(text string) string {
	letters := []byte(text)
	slices.Reverse(letters)
	return string(letters)
}

func checkTurn(t *testing.T, r []api.Piece) {
	t.Helper()
	before := slices.Clone(r)
	turned, e := roll.Turn(r)
	if e != api.OK || !isValid(turned) || written(turned) != reversed(written(r)) {
		t.Fatalf("%v: Turn = %v, %d", r, turned, e)
	}
	again, e := roll.Turn(turned)
	if e != api.OK || written(again) != written(r) {
		t.Fatalf("%v: Turn twice = %v, %d", r, again, e)
	}
	spoil(turned)
	if !slices.Equal(r, before) {
		t.Fatalf("%v: Turn shares its memory", before)
	}
}

func TestTurn(t *testing.T) {
	for r := range smallRolls(2, 4) {
		checkTurn(t, r)
	}
	for r := range someRolls(500) {
		checkTurn(t, r)
	}
	long := append(doubled('b', 39), letter('z'), both(39, 40))
	turned, e := roll.Turn(long)
	if b, f := roll.At(turned, 0); e != api.OK || f != api.OK || b != 'z' {
		t.Errorf("Turn = %c first, %d, %d", b, e, f)
	}
}

func checkBuild(t *testing.T, text string) {
	t.Helper()
	if r, e := roll.Build(text); e != api.OK || !isValid(r) || written(r) != text {
		t.Fatalf("Build(%s) = %v, %d", text, r, e)
	}
}

func TestBuild(t *testing.T) {
	const letters = "abcdefghijklmnopqrstuvwxyz"
	x := rand.New(rand.NewSource(45))
	for n := 1; n <= 32; n++ {
		checkBuild(t, (letters + letters)[:n])
		checkBuild(t, strings.Repeat("z", n))
		for range 200 {
			text := make([]byte, n)
			k := 1 + x.Intn(26)
			for i := range text {
				text[i] = letters[x.Intn(k)]
			}
			checkBuild(t, string(text))
		}
	}
	for _, text := range []string{"", strings.Repeat("a", 33), strings.Repeat("a", 100000), "A", "ab`", "{", "aä", " a", "a\x00"} {
		if r, e := roll.Build(text); len(r) != 0 || e != api.ErrArg {
			t.Errorf("Build(%q) = %v, %d", text, r, e)
		}
	}
}
