package cover_test

import (
	"math"
	"math/big"
	"math/rand"
	"slices"
	"testing"

	"ticking/api"
	"ticking/cover"
)

func points(numbers ...int) []api.Point {
	var list []api.Point
	for i := 0; i+1 < len(numbers); i += 2 {
		list = append(list, api.Point{X: numbers[i], Y: numbers[i+1]})
	}
	return list
}

func somePoints(r *rand.Rand, n, reach int) []api.Point {
	list := make([]api.Point, n)
	for i := range list {
		list[i] = api.Point{X: r.Intn(2*reach+1) - reach, Y: r.Intn(2*reach+1) - reach}
	}
	return list
}

// place is a point, or a center, with rational coordinates.
type place struct {
	x, y *big.Rat
}

func placeOf(p api.Point) place {
	return place{big.NewRat(int64(p.X), 1), big.NewRat(int64(p.Y), 1)}
}

func centerOf(c api.Circle) place {
	return place{big.NewRat(int64(c.X), int64(c.D)), big.NewRat(int64(c.Y), int64(c.D))}
}

func radiusOf(c api.Circle) *big.Rat {
	d := big.NewRat(int64(c.D), 1)
	return new(big.Rat).Quo(big.NewRat(int64(c.R), 1), d.Mul(d, d))
}

func distance(a, b place) *big.Rat {
	x, y := new(big.Rat).Sub(a.x, b.x), new(big.Rat).Sub(a.y, b.y)
	return x.Add(x.Mul(x, x), y.Mul(y, y))
}

func middle(a, b place) place {
	half := big.NewRat(1, 2)
	x, y := new(big.Rat).Add(a.x, b.x), new(big.Rat).Add(a.y, b.y)
	return place{x.Mul(x, half), y.Mul(y, half)}
}

// left is twice the area of the triangle, positive if it turns to the left.
func left(a, b, c place) *big.Rat {
	p := new(big.Rat).Mul(new(big.Rat).Sub(b.x, a.x), new(big.Rat).Sub(c.y, a.y))
	q := new(big.Rat).Mul(new(big.Rat).Sub(b.y, a.y), new(big.Rat).Sub(c.x, a.x))
	return p.Sub(p, q)
}

// equidistant is the place with the same distance from three places, by the equations of two bisectors.
func equidistant(a, b, c place) (place, bool) {
	num := func(f func(p place) *big.Rat) *big.Rat { // the sum of |p|^2 times the difference of the other two
		sum := new(big.Rat)
		for i, p := range []place{a, b, c} {
			next, after := []place{b, c, a}[i], []place{c, a, b}[i]
			size := distance(p, place{new(big.Rat), new(big.Rat)})
			sum.Add(sum, size.Mul(size, new(big.Rat).Sub(f(next), f(after))))
		}
		return sum
	}
	d := left(a, b, c)
	if d.Sign() == 0 {
		return place{}, false
	}
	d.Mul(d, big.NewRat(2, 1))
	x := num(func(p place) *big.Rat { return p.y })
	y := num(func(p place) *big.Rat { return new(big.Rat).Neg(p.x) })
	return place{x.Quo(x, d), y.Quo(y, d)}, true
}

// leastRadius is the square of the least radius that is enough, by trying all centers that can have it.
func leastRadius(l []api.Point) *big.Rat {
	var centers []place
	for i := range l {
		for j := range i + 1 {
			centers = append(centers, middle(placeOf(l[i]), placeOf(l[j])))
			for k := range j {
				if p, ok := equidistant(placeOf(l[i]), placeOf(l[j]), placeOf(l[k])); ok {
					centers = append(centers, p)
				}
			}
		}
	}
	var least *big.Rat
	for _, c := range centers {
		far := new(big.Rat)
		for _, p := range l {
			if d := distance(c, placeOf(p)); d.Cmp(far) > 0 {
				far = d
			}
		}
		if least == nil || far.Cmp(least) < 0 {
			least = far
		}
	}
	return least
}

// supports is the document's definition of a support, in rational numbers.
func supports(l []api.Point, c api.Circle, support []int) bool {
	if len(support) < 1 || len(support) > 3 {
		return false
	}
	center := centerOf(c)
	var on []place
	for i, at := range support {
		if at < 0 || at >= len(l) || i > 0 && at <= support[i-1] {
			return false
		}
		on = append(on, placeOf(l[at]))
		if distance(on[i], center).Cmp(radiusOf(c)) != 0 {
			return false
		}
	}
	for i := range on {
		for j := range i + 1 {
			if m := middle(on[i], on[j]); distance(m, center).Sign() == 0 {
				return true
			}
		}
	}
	if len(on) < 3 || left(on[0], on[1], on[2]).Sign() == 0 {
		return false
	}
	turn := left(on[0], on[1], on[2]).Sign()
	for i := range on {
		if left(on[i], on[(i+1)%3], center).Sign() == -turn {
			return false
		}
	}
	return true
}

func encloses(l []api.Point, c api.Circle) bool {
	for _, p := range l {
		if distance(placeOf(p), centerOf(c)).Cmp(radiusOf(c)) > 0 {
			return false
		}
	}
	return true
}

func validCircle(c api.Circle) bool {
	gcd := new(big.Int).GCD(nil, nil, big.NewInt(int64(c.X)).Abs(big.NewInt(int64(c.X))), big.NewInt(int64(c.Y)).Abs(big.NewInt(int64(c.Y))))
	gcd.GCD(nil, nil, gcd, big.NewInt(int64(c.D)))
	return c.D >= 1 && c.D <= 1<<20 && max(c.X, -c.X) <= 1<<29 && max(c.Y, -c.Y) <= 1<<29 && c.R >= 0 && c.R <= 1<<60 && gcd.Int64() == 1
}

// enclosed returns the circle of the points, after looking at all that is promised of it except that it is the smallest (which its support shows).
func enclosed(t *testing.T, l []api.Point) api.Circle {
	t.Helper()
	before := slices.Clone(l)
	c, s, e := cover.Enclose(l)
	if e != api.OK || !validCircle(c) || !encloses(l, c) || !supports(l, c, s) {
		t.Fatalf("Enclose(%v) = %v, %v, %d", l, c, s, e)
	}
	if n := cover.Check(l, c, s); n != api.OK {
		t.Fatalf("Check(%v, %v, %v) = %d", l, c, s, n)
	}
	if !slices.Equal(l, before) {
		t.Fatalf("Enclose changed %v to %v", before, l)
	}
	return c
}

func TestEncloseKnown(t *testing.T) {
	for _, x := range []struct {
		points []api.Point
		want   api.Circle
	}{
		{points(0, 0, 4, 0, 2, 1), api.Circle{X: 2, Y: 0, D: 1, R: 4}},
		{points(0, 0, 6, 0, 3, 4), api.Circle{X: 24, Y: 7, D: 8, R: 625}},
		{points(7, -3), api.Circle{X: 7, Y: -3, D: 1, R: 0}},
		{points(0, 0), api.Circle{X: 0, Y: 0, D: 1, R: 0}},
		{points(5, 7, 5, 7, 5, 7, 5, 7), api.Circle{X: 5, Y: 7, D: 1, R: 0}},
		{points(0, 0, 1, 0), api.Circle{X: 1, Y: 0, D: 2, R: 1}},
		{points(-1, 0, 0, 0), api.Circle{X: -1, Y: 0, D: 2, R: 1}},
		{points(0, 0, 1, 1), api.Circle{X: 1, Y: 1, D: 2, R: 2}},
		{points(0, 0, 2, 2, 4, 4, 1, 1), api.Circle{X: 2, Y: 2, D: 1, R: 8}},
		{points(0, 0, 4, 0, 0, 4), api.Circle{X: 2, Y: 2, D: 1, R: 8}},
		{points(-256, -256, 256, 256, -256, 256, 256, -256), api.Circle{X: 0, Y: 0, D: 1, R: 2 * 256 * 256}},
		{points(0, 0, 1, 0, 0, 0, 1, 0), api.Circle{X: 1, Y: 0, D: 2, R: 1}},
	} {
		if c := enclosed(t, x.points); c != x.want {
			t.Errorf("Enclose(%v) = %v, not %v", x.points, c, x.want)
		}
	}
}

func TestEncloseIsSmallest(t *testing.T) {
	r := rand.New(rand.NewSource(1))
	for i := range 600 {
		l := somePoints(r, 1+r.Intn(7), []int{1, 2, 5, 30, 256}[i%5])
		if c := enclosed(t, l); radiusOf(c).Cmp(leastRadius(l)) != 0 {
			t.Errorf("Enclose(%v) = %v, which is not the smallest", l, c)
		}
	}
}

func TestEncloseMany(t *testing.T) {
	r := rand.New(rand.NewSource(2))
	for i := range 300 {
		enclosed(t, somePoints(r, 1+r.Intn(api.MaxPoints), []int{1, 3, 16, 256}[i%4]))
	}
	var ring []api.Point // many points on one circle, or nearly so
	for i := range api.MaxPoints {
		a := 2 * math.Pi * float64(i) / api.MaxPoints
		ring = append(ring, api.Point{X: int(math.Round(256 * math.Cos(a))), Y: int(math.Round(256 * math.Sin(a)))})
	}
	enclosed(t, ring)
	enclosed(t, points(-256, -256, 256, -255, 0, 256, -255, -256, 256, -256))
	enclosed(t, points(-256, -256, 256, 255, 255, 256))
}

func TestPointErrors(t *testing.T) {
	far := [][]api.Point{nil, {}, make([]api.Point, api.MaxPoints+1), points(0, 0, 257, 0), points(-257, 0), points(0, 257), points(0, 0, 0, -257),
		points(math.MaxInt, 0), points(0, math.MinInt), make([]api.Point, 100000)}
	for _, l := range far {
		if c, s, e := cover.Enclose(l); c != (api.Circle{}) || len(s) != 0 || e != api.ErrArg {
			t.Errorf("Enclose of %d points, %v..: %v, %v, %d", len(l), l[:min(2, len(l))], c, s, e)
		}
		if e := cover.Check(l, api.Circle{D: 1}, []int{0}); e != api.ErrArg {
			t.Errorf("Check of %d points: %d", len(l), e)
		}
		if e := cover.Check(l, api.Circle{}, nil); e != api.ErrArg {
			t.Errorf("Check of %d points and no circle: %d", len(l), e)
		}
	}
	if c := enclosed(t, make([]api.Point, api.MaxPoints)); c != (api.Circle{D: 1}) {
		t.Errorf("Enclose of %d points: %v", api.MaxPoints, c)
	}
}

func TestCheckSupports(t *testing.T) {
	square := points(2, 0, 0, 2, -2, 0, 0, -2, 1, 1, 2, 0)
	unit := api.Circle{D: 1, R: 4}
	same := points(3, 4, 3, 4, 3, 4)
	still := api.Circle{X: 3, Y: 4, D: 1}
	acute := points(0, 0, 6, 0, 3, 4)
	around := api.Circle{X: 24, Y: 7, D: 8, R: 625}
	flat := points(5, 0, 4, 3, 3, 4, -1, 0)
	wide := api.Circle{D: 1, R: 25}
	for _, x := range []struct {
		points  []api.Point
		circle  api.Circle
		support []int
		want    api.Errno
	}{
		{square, unit, []int{0, 2}, api.OK},
		{square, unit, []int{1, 3}, api.OK},
		{square, unit, []int{2, 5}, api.OK},
		{square, unit, []int{0, 1, 2}, api.OK},
		{square, unit, []int{1, 2, 3}, api.OK},
		{square, unit, []int{0, 2, 5}, api.OK},        // two of the three points are equal
		{square, unit, []int{0, 1, 5}, api.ErrAnswer}, // the same, and the center is not between them
		{square, unit, []int{0, 1}, api.ErrAnswer},
		{square, unit, []int{0, 5}, api.ErrAnswer},
		{square, unit, []int{0}, api.ErrAnswer},
		{square, unit, nil, api.ErrAnswer},
		{square, unit, []int{}, api.ErrAnswer},
		{square, unit, []int{0, 1, 2, 3}, api.ErrAnswer},
		{square, unit, []int{2, 0}, api.ErrAnswer},
		{square, unit, []int{0, 0, 2}, api.ErrAnswer},
		{square, unit, []int{0, 2, 2}, api.ErrAnswer},
		{square, unit, []int{0, 2, 4}, api.ErrAnswer}, // 4 is inside
		{square, unit, []int{0, 6}, api.ErrAnswer},
		{square, unit, []int{-1, 2}, api.ErrAnswer},
		{square, unit, []int{math.MinInt, math.MaxInt}, api.ErrAnswer},
		{square, unit, make([]int, 100000), api.ErrAnswer},
		{square, api.Circle{D: 1, R: 5}, []int{0, 2}, api.ErrAnswer},
		{square, api.Circle{D: 1, R: 3}, []int{0, 2}, api.ErrAnswer},
		{square, api.Circle{D: 2, R: 16}, []int{0, 2}, api.ErrAnswer}, // not reduced
		{square, api.Circle{D: -1, R: 4}, []int{0, 2}, api.ErrAnswer},
		{square, api.Circle{}, []int{0, 2}, api.ErrAnswer},
		{square, api.Circle{X: math.MinInt, Y: math.MinInt, D: math.MaxInt, R: math.MaxInt}, []int{0, 2}, api.ErrAnswer},
		{square, api.Circle{X: 1, Y: 1, D: 1, R: 2}, []int{0, 1}, api.ErrAnswer}, // does not enclose
		{points(0, 0, 2, 0, 9, 9), api.Circle{X: 1, D: 1, R: 1}, []int{0, 1}, api.ErrAnswer},
		{same, still, []int{0}, api.OK},
		{same, still, []int{2}, api.OK},
		{same, still, []int{0, 2}, api.OK},
		{same, still, []int{0, 1, 2}, api.OK},
		{same, still, []int{3}, api.ErrAnswer},
		{acute, around, []int{0, 1, 2}, api.OK},
		{acute, around, []int{0, 1}, api.ErrAnswer},
		{acute, around, []int{0, 2, 1}, api.ErrAnswer},
		{flat, wide, []int{0, 1, 2}, api.ErrAnswer}, // all on the circle, on one side of the center
		{flat, wide, []int{0}, api.ErrAnswer},
		{points(4, 3, 5, 0, 4, -3), wide, []int{0, 1, 2}, api.ErrAnswer},
		{points(3, 4, 3, -4, -5, 0), wide, []int{0, 1, 2}, api.OK},
		{points(3, -4, 3, 4, -5, 0), wide, []int{0, 1, 2}, api.OK},
	} {
		if e := cover.Check(x.points, x.circle, x.support); e != x.want {
			t.Errorf("Check(%v, %v, %v..) = %d, not %d", x.points, x.circle, x.support[:min(4, len(x.support))], e, x.want)
		}
	}
}

// TestCheckAll holds Check against the definition, for all supports with positions of the points, in any order.
func TestCheckAll(t *testing.T) {
	r := rand.New(rand.NewSource(3))
	for range 200 {
		l := somePoints(r, 1+r.Intn(5), 2)
		c := enclosed(t, l)
		for range 100 {
			s := make([]int, r.Intn(4))
			for i := range s {
				s[i] = r.Intn(len(l))
			}
			want := api.ErrAnswer
			if supports(l, c, s) {
				want = api.OK
			}
			if e := cover.Check(l, c, s); e != want {
				t.Fatalf("Check(%v, %v, %v) = %d, not %d", l, c, s, e, want)
			}
		}
	}
}

func TestSide(t *testing.T) {
	half := api.Circle{X: 1, Y: 0, D: 2, R: 1}
	for _, x := range []struct {
		circle api.Circle
		point  api.Point
		want   int
	}{
		{api.Circle{D: 1, R: 25}, api.Point{X: 3, Y: 4}, 0},
		{api.Circle{D: 1, R: 25}, api.Point{X: -4, Y: -2}, -1},
		{api.Circle{D: 1, R: 25}, api.Point{X: -4, Y: 4}, 1},
		{half, api.Point{X: 1, Y: 0}, 0},
		{half, api.Point{X: 0, Y: 0}, 0},
		{half, api.Point{X: 1, Y: 1}, 1},
		{api.Circle{X: 256, Y: -256, D: 1}, api.Point{X: 256, Y: -256}, 0},
		{api.Circle{X: 256, Y: -256, D: 1}, api.Point{X: 256, Y: -255}, 1},
		{api.Circle{X: 1 << 29, Y: -1 << 29, D: 1, R: 1 << 60}, api.Point{X: 256, Y: -256}, -1},
		{api.Circle{X: -1<<29 + 1, Y: -1 << 29, D: 1 << 20, R: 1 << 60}, api.Point{X: 256, Y: 256}, 1},
		{api.Circle{X: 1, Y: 0, D: 1 << 20, R: 1 << 60}, api.Point{X: 256, Y: 256}, -1},
		{api.Circle{X: -1, Y: 0, D: 1 << 20, R: 1}, api.Point{}, 0},
	} {
		if n, e := cover.Side(x.circle, x.point); n != x.want || e != api.OK {
			t.Errorf("Side(%v, %v) = %d, %d, not %d", x.circle, x.point, n, e, x.want)
		}
	}
	r := rand.New(rand.NewSource(4))
	for range 2000 {
		c := api.Circle{X: r.Intn(1<<30+1) - 1<<29, Y: r.Intn(1<<30+1) - 1<<29, D: 1 + r.Intn(1<<20), R: r.Intn(1<<60 + 1)}
		p := somePoints(r, 1, 256)[0]
		n, e := cover.Side(c, p)
		if !validCircle(c) {
			if n != 0 || e != api.ErrArg {
				t.Errorf("Side(%v, %v) = %d, %d", c, p, n, e)
			}
			continue
		}
		if want := distance(placeOf(p), centerOf(c)).Cmp(radiusOf(c)); n != want || e != api.OK {
			t.Errorf("Side(%v, %v) = %d, %d, not %d", c, p, n, e, want)
		}
	}
}

func TestSideErrors(t *testing.T) {
	fine := api.Circle{D: 1, R: 1}
	for _, p := range points(257, 0, -257, 0, 0, 257, 0, -257, math.MinInt, math.MaxInt) {
		if n, e := cover.Side(fine, p); n != 0 || e != api.ErrArg {
			t.Errorf("Side(%v, %v) = %d, %d", fine, p, n, e)
		}
	}
	for _, c := range []api.Circle{
		{}, {D: -1, R: 1}, {X: 1, D: 1<<20 + 1}, {D: 1, R: -1}, {D: 1, R: 1<<60 + 1}, {D: 2}, {D: 3, R: 1},
		{X: 1<<29 + 1, D: 1}, {X: -1<<29 - 1, D: 1}, {Y: 1<<29 + 1, D: 1}, {Y: -1<<29 - 1, D: 1},
		{X: 2, Y: 4, D: 6, R: 1}, {X: -3, Y: 0, D: 3}, {X: 0, Y: -5, D: 10},
		{X: math.MinInt, Y: math.MinInt, D: math.MinInt, R: math.MinInt}, {X: math.MaxInt, Y: math.MaxInt, D: math.MaxInt, R: math.MaxInt},
	} {
		if n, e := cover.Side(c, api.Point{}); n != 0 || e != api.ErrArg {
			t.Errorf("Side(%v, 0 0) = %d, %d", c, n, e)
		}
	}
	for _, c := range []api.Circle{{D: 1, R: 1 << 60}, {X: 1, D: 1 << 20}, {X: 1 << 29, Y: -1 << 29, D: 1}, {X: -1 << 29, Y: 1 << 29, D: 1}, {X: -2, Y: 3, D: 6}} {
		if _, e := cover.Side(c, api.Point{}); e != api.OK {
			t.Errorf("Side(%v, 0 0): %d", c, e)
		}
	}
}

// TestCircleProperties: a further point inside changes nothing, and the circle moves, turns and is mirrored with the points.
func TestCircleProperties(t *testing.T) {
	r := rand.New(rand.NewSource(5))
	for range 200 {
		l := somePoints(r, 1+r.Intn(20), 100)
		c := enclosed(t, l)
		for range 20 {
			p := somePoints(r, 1, 100)[0]
			if n, _ := cover.Side(c, p); n > 0 {
				continue
			}
			at := r.Intn(len(l) + 1)
			if d := enclosed(t, slices.Insert(slices.Clone(l), at, p)); d != c {
				t.Errorf("%v has %v, and with %v %v", l, c, p, d)
			}
		}
		way := somePoints(r, 1, 156)[0]
		for name, do := range map[string]func(x, y, unit int) (int, int){
			"moved":    func(x, y, unit int) (int, int) { return x + way.X*unit, y + way.Y*unit },
			"turned":   func(x, y, _ int) (int, int) { return -y, x },
			"mirrored": func(x, y, _ int) (int, int) { return -x, y },
		} {
			changed := slices.Clone(l)
			for i, p := range l {
				changed[i].X, changed[i].Y = do(p.X, p.Y, 1)
			}
			want := c
			want.X, want.Y = do(c.X, c.Y, c.D)
			if d := enclosed(t, changed); d != want {
				t.Errorf("%s, %v has %v, not %v", name, l, d, want)
			}
		}
	}
}

func TestEncloseKeepsNothing(t *testing.T) {
	l := points(0, 0, 6, 0, 3, 4)
	c, s, _ := cover.Enclose(l)
	s[0], s[1], s[2] = 9, 9, 9
	d, again, _ := cover.Enclose(l)
	if c != d || !slices.Equal(again, []int{0, 1, 2}) {
		t.Errorf("Enclose returned %v, and then %v, %v", c, d, again)
	}
}
