package cover

import (
	"iter"
	"slices"

	"ticking/api"
)

// span is the number of cells side by side, from one end of the coordinates to the other.
const span = 2 * api.MaxCoord

// depths has, by X and Y counted from the least coordinates, the depth of each cell. The last column and the last row are not cells, and stay 0.
type depths [span + 1][span + 1]int16

// Area returns the number of cells of the union.
func Area(rects []api.Rect) (int, api.Errno) {
	if !areRects(rects, api.MaxRects) {
		return 0, api.ErrArg
	}
	n := 0
	for _, column := range measured(rects) {
		for _, depth := range column {
			if depth > 0 {
				n++
			}
		}
	}
	return n, api.OK
}

// Edge returns the number of sides of cells of the union on whose other side there is no cell of it.
func Edge(rects []api.Rect) (int, api.Errno) {
	if !areRects(rects, api.MaxRects) {
		return 0, api.ErrArg
	}
	d := measured(rects)
	n := 0
	for x := range d {
		for y := range d[x] {
			in := d[x][y] > 0
			if in != (x > 0 && d[x-1][y] > 0) {
				n++
			}
			if in != (y > 0 && d[x][y-1] > 0) {
				n++
			}
		}
	}
	return n, api.OK
}

// Deepest returns the greatest depth of a cell, and the lower left corner of the first cell that has it.
func Deepest(rects []api.Rect) (int, api.Point, api.Errno) {
	if !areRects(rects, api.MaxRects) {
		return 0, api.Point{}, api.ErrArg
	}
	if len(rects) == 0 {
		return 0, api.Point{}, api.ErrNone
	}
	most, first := 0, api.Point{}
	for x, column := range measured(rects) {
		for y, depth := range column {
			if int(depth) > most {
				most, first = int(depth), api.Point{X: x - api.MaxCoord, Y: y - api.MaxCoord}
			}
		}
	}
	return most, first, api.OK
}

// Divide returns a partition of the rectangles: upright strips, between adjacent X of them, of the parts of the union.
func Divide(rects []api.Rect) ([]api.Rect, api.Errno) {
	if !areRects(rects, api.MaxRects) {
		return nil, api.ErrArg
	}
	// A strip has no more parts than rectangles that reach over it. These are at most 1, 2, .. 31, 32, 31, .. 2, 1 for 32 rectangles: MaxPieces in all.
	d := measured(rects)
	bounds := sides(rects)
	var pieces []api.Rect
	for i := 1; i < len(bounds); i++ {
		left, right := bounds[i-1], bounds[i]
		for low, high := range runs(&d[left+api.MaxCoord]) {
			pieces = append(pieces, api.Rect{X1: left, Y1: low - api.MaxCoord, X2: right, Y2: high - api.MaxCoord})
		}
	}
	return pieces, api.OK
}

// Tiles returns OK if pieces are a partition of rects.
func Tiles(rects, pieces []api.Rect) api.Errno {
	if !areRects(rects, api.MaxRects) {
		return api.ErrArg
	}
	if !areRects(pieces, api.MaxPieces) {
		return api.ErrAnswer
	}
	wanted, given := measured(rects), measured(pieces)
	answer := api.OK
search:
	for x := range wanted {
		for y, depth := range wanted[x] {
			if given[x][y] != min(depth, 1) {
				answer = api.ErrAnswer
				break search
			}
		}
	}
	return answer
}

// Meet returns the first point that all rectangles contain, or the positions of two rectangles that contain no common point.
func Meet(rects []api.Rect) (api.Point, []int, api.Errno) {
	if !areRects(rects, api.MaxRects) {
		return api.Point{}, nil, api.ErrArg
	}
	if len(rects) == 0 {
		return api.Point{}, nil, api.OK
	}
	var left, low, right, high int // positions of the rectangles with the greatest X1 and Y1, and the least X2 and Y2
	for i, r := range rects {
		if r.X1 > rects[left].X1 {
			left = i
		}
		if r.Y1 > rects[low].Y1 {
			low = i
		}
		if r.X2 < rects[right].X2 {
			right = i
		}
		if r.Y2 < rects[high].Y2 {
			high = i
		}
	}
	if rects[left].X1 > rects[right].X2 {
		return api.Point{}, ascending(left, right), api.OK
	}
	if rects[low].Y1 > rects[high].Y2 {
		return api.Point{}, ascending(low, high), api.OK
	}
	return api.Point{X: rects[left].X1, Y: rects[low].Y1}, nil, api.OK
}

func ascending(a, b int) []int { return []int{min(a, b), max(a, b)} }

// measured returns the depths of all cells. It marks where the depth changes, and adds the marks up along both axes, so the time does not depend on the rectangles' sizes.
func measured(rects []api.Rect) *depths {
	d := new(depths)
	for _, r := range rects {
		left, right := &d[r.X1+api.MaxCoord], &d[r.X2+api.MaxCoord]
		low, high := r.Y1+api.MaxCoord, r.Y2+api.MaxCoord
		left[low]++
		left[high]--
		right[low]--
		right[high]++
	}
	for x := range d {
		var sum int16
		for y := range d[x] {
			sum += d[x][y]
			d[x][y] = sum
			if x > 0 {
				d[x][y] += d[x-1][y]
			}
		}
	}
	return d
}

// sides returns all X1 and X2, each once, in ascending order.
func sides(rects []api.Rect) []int {
	var list []int
	for _, r := range rects {
		list = append(list, r.X1, r.X2)
	}
	slices.Sort(list)
	return slices.Compact(list)
}

// runs visits the longest ranges of cells of a column that are in the union: where each begins, and where it has ended.
func runs(column *[span + 1]int16) iter.Seq2[int, int] {
	return func(yield func(int, int) bool) {
		begin := 0
		for y := 1; y < len(column); y++ {
			was, is := column[y-1] > 0, column[y] > 0
			if is && !was {
				begin = y
			}
			if was && !is && !yield(begin, y) {
				return
			}
		}
	}
}
