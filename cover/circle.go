package cover

import (
	"cmp"
	"iter"
	"slices"

	"ticking/api"
)

// The bounds of a valid circle. They keep the squares of all distances that are compared below 2^62.
const (
	maxDivisor = 1 << 20
	maxCenter  = 1 << 29
	maxRadius  = 1 << 60
)

// maxSupport is the greatest number of positions in a support.
const maxSupport = 3

// offset is the way from the center of a circle to a point, times the circle's D, so that it is exact.
type offset struct {
	x, y int
}

// Enclose returns the smallest circle that encloses all points, and a support of it.
func Enclose(points []api.Point) (api.Circle, []int, api.Errno) {
	if !arePoints(points) {
		return api.Circle{}, nil, api.ErrArg
	}
	c, support := smallest(points, []int{0})
	for {
		far := farthest(points, c)
		if side(c, points[far]) <= 0 {
			return c, support, api.OK
		}
		// The smallest circle of a support and a point outside is larger than that of the support, so no circle comes twice, and this ends.
		c, support = smallest(points, append(support, far))
	}
}

// Check returns OK if c is a valid circle that encloses all points, and support is a support of it.
func Check(points []api.Point, c api.Circle, support []int) api.Errno {
	if !arePoints(points) {
		return api.ErrArg
	}
	if !isCircle(c) || !isSupport(points, c, support) || side(c, points[farthest(points, c)]) > 0 {
		return api.ErrAnswer
	}
	return api.OK
}

// Side returns -1, 0 or 1 if the point is inside the circle, on it, or outside.
func Side(c api.Circle, p api.Point) (int, api.Errno) {
	if !isCircle(c) || !isPoint(p) {
		return 0, api.ErrArg
	}
	return side(c, p), api.OK
}

func isCircle(c api.Circle) bool {
	if c.D < 1 || c.D > maxDivisor || c.R < 0 || c.R > maxRadius {
		return false
	}
	if c.X < -maxCenter || c.X > maxCenter || c.Y < -maxCenter || c.Y > maxCenter {
		return false
	}
	return divisor(c.X, c.Y, c.D) == 1
}

func isSupport(points []api.Point, c api.Circle, support []int) bool {
	if len(support) == 0 || len(support) > maxSupport {
		return false
	}
	last := -1
	for _, at := range support {
		if at <= last || at >= len(points) || side(c, points[at]) != 0 {
			return false
		}
		last = at
	}
	return surrounded(points, c, support)
}

// surrounded reports whether the center is in the convex hull of the chosen points, of which there are at most three, and which are on the circle.
func surrounded(points []api.Point, c api.Circle, support []int) bool {
	var ways [maxSupport]offset
	for i, at := range support {
		ways[i] = from(c, points[at])
		for _, w := range ways[:i+1] { // with itself: the center is opposite to itself
			if ways[i] == (offset{-w.x, -w.y}) {
				return true
			}
		}
	}
	if len(support) < maxSupport {
		return false
	}
	// No two points on the circle are opposite to each other, so the center is not on a side, and a turn of 0 means equal points.
	a, b, d := turn(ways[0], ways[1]), turn(ways[1], ways[2]), turn(ways[2], ways[0])
	return a > 0 && b > 0 && d > 0 || a < 0 && b < 0 && d < 0
}

// smallest returns the smallest circle that encloses the points at the positions in among, and a support of it.
func smallest(points []api.Point, among []int) (api.Circle, []int) {
	among = slices.Sorted(slices.Values(among))
	var found api.Circle
	var support []int
search:
	for c, on := range candidates(points, among) {
		for _, at := range among {
			if side(c, points[at]) > 0 {
				continue search
			}
		}
		found, support = c, on
		break search
	}
	return found, support
}

// candidates visits the circles that have one, two or three of the positions in among as a support, and these positions.
func candidates(points []api.Point, among []int) iter.Seq2[api.Circle, []int] {
	return func(yield func(api.Circle, []int) bool) {
		for size := 1; size <= maxSupport; size++ {
			for support := range choices(among, size) {
				c, ok := through(points, support)
				if ok && surrounded(points, c, support) && !yield(c, support) {
					return
				}
			}
		}
	}
}

// choices visits all parts of the list with size of its numbers, in their order.
func choices(list []int, size int) iter.Seq[[]int] {
	return func(yield func([]int) bool) {
		choose(list, size, nil, yield)
	}
}

// choose visits all choices that begin with the numbers chosen already, and reports whether the visit is to go on.
func choose(list []int, size int, chosen []int, yield func([]int) bool) bool {
	if size == 0 {
		return yield(slices.Clone(chosen))
	}
	for i, n := range list {
		if !choose(list[i+1:], size-1, append(chosen, n), yield) {
			return false
		}
	}
	return true
}

// through returns the circle on which the chosen points are: around one, halfway between two, or around three, unless these are in a line.
func through(points []api.Point, support []int) (api.Circle, bool) {
	p := points[support[0]]
	c := api.Circle{X: p.X, Y: p.Y, D: 1}
	switch len(support) {
	case 2:
		q := points[support[1]]
		c = api.Circle{X: p.X + q.X, Y: p.Y + q.Y, D: 2}
	case 3:
		c = circumscribed(p, points[support[1]], points[support[2]])
	}
	if c.D == 0 {
		return api.Circle{}, false
	}
	return reduced(c, p), true
}

// circumscribed returns the center of the circle through three points; D is 0 if they are in a line.
func circumscribed(p, q, r api.Point) api.Circle {
	a := offset{q.X - p.X, q.Y - p.Y}
	b := offset{r.X - p.X, r.Y - p.Y}
	d := 2 * turn(a, b)
	x := b.y*square(a) - a.y*square(b)
	y := a.x*square(b) - b.x*square(a)
	if d < 0 {
		d, x, y = -d, -x, -y
	}
	return api.Circle{X: p.X*d + x, Y: p.Y*d + y, D: d}
}

// reduced returns the valid circle with the center of c on which p is.
func reduced(c api.Circle, p api.Point) api.Circle {
	n := divisor(c.X, c.Y, c.D)
	c = api.Circle{X: c.X / n, Y: c.Y / n, D: c.D / n}
	c.R = square(from(c, p))
	return c
}

// farthest returns the first position of a point with the greatest distance from the center.
func farthest(points []api.Point, c api.Circle) int {
	far, most := 0, -1
	for i, p := range points {
		if n := square(from(c, p)); n > most {
			far, most = i, n
		}
	}
	return far
}

func side(c api.Circle, p api.Point) int { return cmp.Compare(square(from(c, p)), c.R) }

func from(c api.Circle, p api.Point) offset { return offset{p.X*c.D - c.X, p.Y*c.D - c.Y} }

func square(o offset) int { return o.x*o.x + o.y*o.y }

// turn is positive if the way from a to b turns to the left, and 0 if both are in a line with the center.
func turn(a, b offset) int { return a.x*b.y - a.y*b.x }

// divisor returns the greatest common divisor of numbers of which at least one is not 0.
func divisor(numbers ...int) int {
	d := 0
	for _, n := range numbers {
		for n != 0 {
			d, n = n, d%n
		}
	}
	return max(d, -d)
}
