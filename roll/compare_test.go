package roll_test

import (
	"cmp"
	"math/bits"
	"math/rand"
	"slices"
	"testing"

	"ticking/api"
	"ticking/roll"
)

// P4.2 and P4.5: comparing and periods. P4.6: what follows from them.

// inCommon counts the letters that two written texts have in common.
func inCommon(u, w string) int {
	n := 0
	for n < len(u) && n < len(w) && u[n] == w[n] {
		n++
	}
	return n
}

func checkCompare(t *testing.T, r, s []api.Piece, u, w string) {
	t.Helper()
	if is, e := roll.Equal(r, s); is != (u == w) || e != api.OK {
		t.Fatalf("Equal(%v, %v) = %t, %d", r, s, is, e)
	}
	n, order, e := roll.Compare(r, s)
	if n != inCommon(u, w) || order != cmp.Compare(u, w) || e != api.OK {
		t.Fatalf("Compare(%v, %v) = %d, %d, %d", r, s, n, order, e)
	}
}

func TestCompareSmall(t *testing.T) {
	var rolls [][]api.Piece
	var texts []string
	for r := range smallRolls(2, 4) {
		rolls = append(rolls, r)
		texts = append(texts, written(r))
	}
	for i, r := range rolls {
		for j := i % 7; j < len(rolls); j += 7 {
			checkCompare(t, r, rolls[j], texts[i], texts[j])
		}
	}
}

func TestCompareSome(t *testing.T) {
	x := rand.New(rand.NewSource(46))
	var last []api.Piece
	for r := range someRolls(2000) {
		u := written(r)
		if last != nil {
			checkCompare(t, r, last, u, written(last))
		}
		last = r
		s := changed(x, r)
		checkCompare(t, r, s, u, written(s))
		checkCompare(t, s, r, written(s), u)
	}
}

// changed changes one piece of a roll into another one of the same kind.
func changed(x *rand.Rand, r []api.Piece) []api.Piece {
	r = slices.Clone(r)
	at := x.Intn(len(r))
	switch {
	case r[at].Letter != 0:
		r[at] = letter(byte('a' + x.Intn(4)))
	case x.Intn(2) == 0:
		r[at] = both(r[at].B, r[at].A)
	default:
		r[at] = both(x.Intn(at), r[at].B)
	}
	return r
}

func TestCompareExamples(t *testing.T) {
	abba := []api.Piece{letter('a'), letter('b'), both(0, 1), both(1, 0), both(2, 3)}
	if n, order, e := roll.Compare(abab(), abba); n != 2 || order != -1 || e != api.OK {
		t.Errorf("Compare = %d, %d, %d", n, order, e)
	}
	if n, order, e := roll.Compare(abab()[:3], abab()); n != 2 || order != -1 || e != api.OK {
		t.Errorf("Compare with a beginning = %d, %d, %d", n, order, e)
	}
	if n, order, e := roll.Compare(abab(), abab()[:3]); n != 2 || order != 1 || e != api.OK {
		t.Errorf("Compare with a beginning = %d, %d, %d", n, order, e)
	}
	if n, order, e := roll.Compare(abab(), abab()); n != 4 || order != 0 || e != api.OK {
		t.Errorf("Compare with itself = %d, %d, %d", n, order, e)
	}
}

// Fibonacci texts of neighbouring lengths, put together in both orders, differ in their last two letters only.
func TestCompareFibonacci(t *testing.T) {
	for n := 3; n <= 58; n++ {
		r := fibonacci(n)
		s := slices.Clone(r)
		s[n-1] = both(s[n-1].B, s[n-1].A)
		length, _ := roll.Length(r)
		common, order, e := roll.Compare(r, s)
		want := 1 - 2*(n%2)
		if common != length-2 || order != want || e != api.OK {
			t.Errorf("%d: Compare = %d of %d, %d, %d", n, common, length, order, e)
		}
		if is, e := roll.Equal(r, s); is || e != api.OK {
			t.Errorf("%d: Equal = %t, %d", n, is, e)
		}
		if p, e := roll.Period(r); p != length || e != api.OK {
			t.Errorf("%d: Period = %d of %d, %d", n, p, length, e)
		}
	}
}

// thueMorse has each piece followed by the piece with a and b exchanged. These texts mislead sums of powers that overflow.
func thueMorse(times int) []api.Piece {
	r := []api.Piece{letter('a'), letter('b')}
	for i := range times {
		r = append(r, both(2*i, 2*i+1), both(2*i+1, 2*i))
	}
	return r
}

func TestCompareThueMorse(t *testing.T) {
	for times := range 31 {
		b := thueMorse(times)
		a := append(slices.Clone(b), both(len(b)-2, len(b)-1))
		b = append(b, both(len(b)-1, len(b)-2))
		if n, order, e := roll.Compare(a, b); n != 0 || order != -1 || e != api.OK {
			t.Errorf("%d: Compare = %d, %d, %d", times, n, order, e)
		}
		// The same half before both.
		a = append(a, both(len(a)-2, len(a)-1))
		b = append(b, both(len(b)-2, len(b)-1))
		if n, order, e := roll.Compare(a, b); n != 1<<times || order != -1 || e != api.OK {
			t.Errorf("%d: Compare = %d, %d, %d", times, n, order, e)
		}
	}
}

// One other letter, anywhere in a text of 2^31 letters.
func TestCompareOneLetter(t *testing.T) {
	x := rand.New(rand.NewSource(47))
	all := doubled('b', 31)
	for range 100 {
		at := x.Intn(1 << 31)
		one := withLetter(31, 'a', at)
		if n, order, e := roll.Compare(all, one); n != at || order != 1 || e != api.OK {
			t.Errorf("%d: Compare = %d, %d, %d", at, n, order, e)
		}
		if is, e := roll.Equal(one, all); is || e != api.OK {
			t.Errorf("%d: Equal = %t, %d", at, is, e)
		}
		if p, e := roll.Period(one); p != 1<<31 || e != api.OK {
			t.Errorf("%d: Period = %d, %d", at, p, e)
		}
		if n, first, e := roll.Find(one, "a"); n != 1 || first != at || e != api.OK {
			t.Errorf("%d: Find = %d, %d, %d", at, n, first, e)
		}
		if same, e := roll.Equal(all, withLetter(31, 'b', at)); !same || e != api.OK {
			t.Errorf("%d: Equal = %t, %d", at, same, e)
		}
	}
}

// withLetter is a text of 2^times letters b, of which the one at the position is replaced.
func withLetter(times int, other byte, at int) []api.Piece {
	r := append(doubled('b', times-1), letter(other))
	for i := range times {
		last := len(r) - 1
		if at>>i&1 == 0 {
			r = append(r, both(last, i))
		} else {
			r = append(r, both(i, last))
		}
	}
	return r
}

// sums is a second way to compare long texts: sums of the letters of beginnings, multiplied by powers of a number, modulo the prime 2^61 - 1. Only by a rare chance are those of different texts equal.
type sums struct {
	roll   []api.Piece
	sizes  []int
	sums   []uint64
	powers []uint64
}

const prime = 1<<61 - 1

func times(a, b uint64) uint64 {
	high, low := bits.Mul64(a, b)
	return bits.Rem64(high, low, prime)
}

func sumsOf(r []api.Piece) sums {
	s := sums{roll: r}
	for _, p := range r {
		size, sum, power := 1, uint64(p.Letter), uint64(1234567890123456789)
		if p.Letter == 0 {
			size = s.sizes[p.A] + s.sizes[p.B]
			sum = (times(s.sums[p.A], s.powers[p.B]) + s.sums[p.B]) % prime
			power = times(s.powers[p.A], s.powers[p.B])
		}
		s.sizes = append(s.sizes, size)
		s.sums = append(s.sums, sum)
		s.powers = append(s.powers, power)
	}
	return s
}

func (s sums) length() int { return s.sizes[len(s.sizes)-1] }

// beginning is the sum of the first n letters, of which there are fewer than in all.
func (s sums) beginning(n int) uint64 {
	sum, i := uint64(0), len(s.roll)-1
	for s.roll[i].Letter == 0 {
		p := s.roll[i]
		i = p.A
		if n >= s.sizes[p.A] {
			n -= s.sizes[p.A]
			sum = (times(sum, s.powers[p.A]) + s.sums[p.A]) % prime
			i = p.B
		}
	}
	return sum
}

func (s sums) inCommon(t sums) int {
	if s.sums[len(s.sums)-1] == t.sums[len(t.sums)-1] && s.length() == t.length() {
		return s.length()
	}
	low, high := 0, min(s.length(), t.length())
	for low < high {
		middle := (low + high + 1) / 2
		if s.upTo(middle) == t.upTo(middle) {
			low = middle
		} else {
			high = middle - 1
		}
	}
	return low
}

func (s sums) upTo(n int) uint64 {
	if n == s.length() {
		return s.sums[len(s.sums)-1]
	}
	return s.beginning(n)
}

func TestCompareLong(t *testing.T) {
	x := rand.New(rand.NewSource(48))
	for range 400 {
		k := 1 + x.Intn(4)
		r := someRoll(x, k, 64, 1<<40)
		s := changed(x, r)
		if !isValid(s) {
			continue
		}
		checkLong(t, r, s)
		checkLong(t, s, r)
	}
}

func checkLong(t *testing.T, r, s []api.Piece) {
	t.Helper()
	u, w := sumsOf(r), sumsOf(s)
	want := u.inCommon(w)
	order := cmp.Compare(u.length(), w.length())
	if want < u.length() && want < w.length() {
		a, _ := roll.At(r, want)
		b, _ := roll.At(s, want)
		order = cmp.Compare(a, b)
	}
	if n, o, e := roll.Compare(r, s); n != want || o != order || e != api.OK {
		t.Fatalf("Compare(%v, %v) = %d, %d, %d, not %d, %d", r, s, n, o, e, want, order)
	}
	if is, e := roll.Equal(r, s); is != (order == 0) || e != api.OK {
		t.Fatalf("Equal(%v, %v) = %t, %d", r, s, is, e)
	}
}

// What is cut at a position and put together again is the whole.
func TestCutAndCompare(t *testing.T) {
	x := rand.New(rand.NewSource(49))
	for range 300 {
		r := someRoll(x, 1+x.Intn(4), 20, 1<<40)
		length, _ := roll.Length(r)
		if length == 1 {
			continue
		}
		at := 1 + x.Intn(length-1)
		head, e := roll.Cut(r, 0, at)
		tail, f := roll.Cut(r, at, length)
		if e != api.OK || f != api.OK {
			t.Fatalf("%v: Cut at %d: %d, %d", r, at, e, f)
		}
		whole := joined(head, tail)
		if len(whole) > 64 {
			continue
		}
		if is, e := roll.Equal(whole, r); !is || e != api.OK {
			t.Fatalf("%v: cut at %d it is another one: %d", r, at, e)
		}
		if n, order, e := roll.Compare(head, r); n != at || order != -1 || e != api.OK {
			t.Fatalf("%v: Compare with its beginning = %d, %d, %d", r, n, order, e)
		}
	}
}

// joined is a roll of one text and another one after it.
func joined(r, s []api.Piece) []api.Piece {
	whole := slices.Clone(r)
	for _, p := range s {
		if p.Letter == 0 {
			p = both(p.A+len(r), p.B+len(r))
		}
		whole = append(whole, p)
	}
	return append(whole, both(len(r)-1, len(whole)-1))
}

// period moves the written text by every divisor of its length.
func period(text string) int {
	for n := 1; ; n++ {
		if len(text)%n == 0 && text[n:] == text[:len(text)-n] {
			return n
		}
	}
}

func checkPeriod(t *testing.T, r []api.Piece) {
	t.Helper()
	if n, e := roll.Period(r); n != period(written(r)) || e != api.OK {
		t.Fatalf("%v: Period = %d, %d, not %d", r, n, e, period(written(r)))
	}
}

func TestPeriod(t *testing.T) {
	for r := range smallRolls(2, 4) {
		checkPeriod(t, r)
	}
	x := rand.New(rand.NewSource(50))
	for range 3000 {
		part := someRoll(x, 1+x.Intn(3), 2+x.Intn(5), 40)
		checkPeriod(t, repeated(part, 1+x.Intn(40)))
	}
}

// repeated is the text of r, some times.
func repeated(r []api.Piece, count int) []api.Piece {
	r = slices.Clone(r)
	power := len(r) - 1
	whole := -1
	for ; count > 0; count /= 2 {
		if count%2 == 1 && whole < 0 {
			whole = power
		} else if count%2 == 1 {
			r = append(r, both(whole, power))
			whole = len(r) - 1
		}
		if count > 1 {
			r = append(r, both(power, power))
			power = len(r) - 1
		}
	}
	return r
}

// Periods of texts of up to 2^40 letters. 2^31 - 1, 786433 and 3 * 2^36 + 1 are primes, and 963761198400 has 6720 divisors.
func TestPeriodLong(t *testing.T) {
	a, b := letter('a'), letter('b')
	for _, x := range []struct {
		part  []api.Piece
		count int
		want  int
	}{
		{[]api.Piece{a}, 1 << 40, 1},
		{[]api.Piece{a}, 1<<31 - 1, 1},
		{append(repeated([]api.Piece{a}, 786432), b, both(20, 21)), 786433, 786433},
		{append(repeated([]api.Piece{a}, 3<<36), b, both(38, 39)), 1, 3<<36 + 1},
		{[]api.Piece{a}, 963761198400, 1},
		{[]api.Piece{b, a, both(0, 1)}, 321253732800, 2},
		{[]api.Piece{a, b, both(0, 1)}, 1 << 39, 2},
		{[]api.Piece{a, b, both(0, 1), both(2, 0)}, 1 << 38, 3},
		{[]api.Piece{a, b, both(0, 1), both(2, 0)}, 321253732800, 3},
		{[]api.Piece{a, b, both(0, 1), both(2, 2), both(3, 0), both(4, 4)}, 1 << 36, 5},
		{fibonacci(27), 1 << 20, 196418},
		{fibonacci(57), 1, 365435296162},
		{thueMorse(18), 1 << 20, 1 << 18},
	} {
		r := repeated(x.part, x.count)
		if n, e := roll.Period(r); n != x.want || e != api.OK || !isValid(r) {
			t.Errorf("%v: Period = %d, %d, not %d", r, n, e, x.want)
		}
	}
}

func TestPeriodExample(t *testing.T) {
	if n, e := roll.Period(abab()); n != 2 || e != api.OK {
		t.Errorf("Period = %d, %d", n, e)
	}
}

// Arguments stay as they are.
func TestArgumentsStay(t *testing.T) {
	for r := range someRolls(50) {
		before := slices.Clone(r)
		roll.Length(r)
		roll.At(r, 0)
		roll.Part(r, 0, 1)
		roll.Letters(r)
		roll.Equal(r, r)
		roll.Compare(r, r)
		roll.Find(r, "ab")
		roll.Period(r)
		if !slices.Equal(r, before) {
			t.Fatalf("%v has become %v", before, r)
		}
	}
}
