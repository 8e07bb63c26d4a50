package cover_test

import (
	"math"
	"math/rand"
	"slices"
	"testing"

	"ticking/api"
	"ticking/cover"
)

func rects(numbers ...int) []api.Rect {
	var list []api.Rect
	for i := 0; i+3 < len(numbers); i += 4 {
		list = append(list, api.Rect{X1: numbers[i], Y1: numbers[i+1], X2: numbers[i+2], Y2: numbers[i+3]})
	}
	return list
}

func someRects(r *rand.Rand, n, reach int) []api.Rect {
	list := make([]api.Rect, n)
	for i := range list {
		a, b := r.Perm(2*reach+1), r.Perm(2*reach+1)
		list[i] = api.Rect{X1: min(a[0], a[1]) - reach, Y1: min(b[0], b[1]) - reach, X2: max(a[0], a[1]) - reach, Y2: max(b[0], b[1]) - reach}
	}
	return list
}

// cells has the depth of each cell that is covered, by its lower left corner.
func cells(l []api.Rect) map[api.Point]int {
	found := map[api.Point]int{}
	for _, r := range l {
		for x := r.X1; x < r.X2; x++ {
			for y := r.Y1; y < r.Y2; y++ {
				found[api.Point{X: x, Y: y}]++
			}
		}
	}
	return found
}

func edge(union map[api.Point]int) int {
	n := 0
	for c := range union {
		for _, d := range points(1, 0, -1, 0, 0, 1, 0, -1) {
			if union[api.Point{X: c.X + d.X, Y: c.Y + d.Y}] == 0 {
				n++
			}
		}
	}
	return n
}

func deepest(union map[api.Point]int) (int, api.Point) {
	most, first := 0, api.Point{}
	for c, n := range union {
		if n > most || n == most && (c.X < first.X || c.X == first.X && c.Y < first.Y) {
			most, first = n, c
		}
	}
	return most, first
}

// tiles is the document's definition of a partition.
func tiles(l, pieces []api.Rect) bool {
	if len(pieces) > api.MaxPieces {
		return false
	}
	for _, p := range pieces {
		if p.X1 >= p.X2 || p.Y1 >= p.Y2 || min(p.X1, p.Y1) < -api.MaxCoord || max(p.X2, p.Y2) > api.MaxCoord {
			return false
		}
	}
	want, have := cells(l), cells(pieces)
	for c := range want {
		if have[c] != 1 {
			return false
		}
	}
	return len(want) == len(have)
}

func divided(t *testing.T, l []api.Rect) []api.Rect {
	t.Helper()
	before := slices.Clone(l)
	p, e := cover.Divide(l)
	if e != api.OK || !tiles(l, p) {
		t.Fatalf("Divide(%v) = %v, %d", l, p, e)
	}
	if e := cover.Tiles(l, p); e != api.OK {
		t.Fatalf("Tiles(%v, %v) = %d", l, p, e)
	}
	if !slices.Equal(l, before) {
		t.Fatalf("Divide changed %v to %v", before, l)
	}
	return p
}

func TestUnionKnown(t *testing.T) {
	whole := rects(-256, -256, 256, 256)
	for _, x := range []struct {
		rects                  []api.Rect
		area, edge, deep, x, y int
	}{
		{rects(0, 0, 2, 2, 1, 1, 3, 3), 7, 12, 2, 1, 1},
		{rects(0, 0, 1, 1), 1, 4, 1, 0, 0},
		{rects(0, 0, 1, 1, 1, 1, 2, 2), 2, 8, 1, 0, 0},                          // they touch at a corner
		{rects(0, 0, 1, 1, 1, 0, 2, 1), 2, 6, 1, 0, 0},                          // they touch at a side
		{rects(0, 0, 3, 1, 0, 2, 3, 3, 0, 0, 1, 3, 2, 0, 3, 3), 8, 16, 2, 0, 0}, // a ring
		{rects(3, 5, 4, 6, -7, 9, -6, 10, -7, 8, -6, 9), 3, 10, 1, -7, 8},       // of equal depths, first X, then Y
		{rects(-2, 4, 0, 6, -1, 0, 1, 5, -2, 0, 5, 1), 4 + 10 + 7 - 1 - 2, 28, 2, -1, 0},
		{whole, 512 * 512, 4 * 512, 1, -256, -256},
		{slices.Repeat(whole, api.MaxRects), 512 * 512, 4 * 512, api.MaxRects, -256, -256},
		{rects(255, 255, 256, 256, -256, -256, -255, -255, 255, 255, 256, 256), 2, 8, 2, 255, 255},
	} {
		if n, e := cover.Area(x.rects); n != x.area || e != api.OK {
			t.Errorf("Area(%v) = %d, %d", x.rects, n, e)
		}
		if n, e := cover.Edge(x.rects); n != x.edge || e != api.OK {
			t.Errorf("Edge(%v) = %d, %d", x.rects, n, e)
		}
		if n, p, e := cover.Deepest(x.rects); n != x.deep || p != (api.Point{X: x.x, Y: x.y}) || e != api.OK {
			t.Errorf("Deepest(%v) = %d, %v, %d", x.rects, n, p, e)
		}
		divided(t, x.rects)
	}
}

func TestUnionRandom(t *testing.T) {
	r := rand.New(rand.NewSource(6))
	for i := range 400 {
		l := someRects(r, r.Intn([]int{4, 9, api.MaxRects + 1}[i%3]), []int{2, 4, 12, 40}[i%4])
		union := cells(l)
		if n, e := cover.Area(l); n != len(union) || e != api.OK {
			t.Errorf("Area(%v) = %d, %d", l, n, e)
		}
		if n, e := cover.Edge(l); n != edge(union) || e != api.OK {
			t.Errorf("Edge(%v) = %d, %d", l, n, e)
		}
		divided(t, l)
		depth, at := deepest(union)
		want := api.OK
		if len(l) == 0 {
			want = api.ErrNone
		}
		if n, p, e := cover.Deepest(l); n != depth || p != at || e != want {
			t.Errorf("Deepest(%v) = %d, %v, %d", l, n, p, e)
		}
	}
}

func TestNoRects(t *testing.T) {
	for _, l := range [][]api.Rect{nil, {}} {
		area, e := cover.Area(l)
		edge, f := cover.Edge(l)
		if area != 0 || edge != 0 || e != api.OK || f != api.OK {
			t.Errorf("Area = %d, %d, Edge = %d, %d", area, e, edge, f)
		}
		if n, p, e := cover.Deepest(l); n != 0 || p != (api.Point{}) || e != api.ErrNone {
			t.Errorf("Deepest = %d, %v, %d", n, p, e)
		}
		if p := divided(t, l); len(p) != 0 {
			t.Errorf("Divide = %v", p)
		}
		if p, pair, e := cover.Meet(l); p != (api.Point{}) || len(pair) != 0 || e != api.OK {
			t.Errorf("Meet = %v, %v, %d", p, pair, e)
		}
	}
}

func wrongRects() [][]api.Rect {
	return [][]api.Rect{
		slices.Repeat(rects(0, 0, 1, 1), api.MaxRects+1), slices.Repeat(rects(0, 0, 1, 1), 100000),
		rects(0, 0, 0, 1), rects(0, 0, 1, 0), rects(1, 0, 0, 1), rects(0, 1, 1, 0), rects(0, 0, 1, 1, 2, 2, 2, 2),
		rects(-257, 0, 1, 1), rects(0, -257, 1, 1), rects(0, 0, 257, 1), rects(0, 0, 1, 257), rects(256, 256, 257, 257), rects(-257, -257, -256, -256),
		rects(math.MinInt, math.MinInt, math.MaxInt, math.MaxInt), {{}},
	}
}

func TestRectErrors(t *testing.T) {
	for _, l := range wrongRects() {
		area, e := cover.Area(l)
		edge, f := cover.Edge(l)
		if area != 0 || edge != 0 || e != api.ErrArg || f != api.ErrArg {
			t.Errorf("%v..: Area = %d, %d, Edge = %d, %d", l[0], area, e, edge, f)
		}
		if n, p, e := cover.Deepest(l); n != 0 || p != (api.Point{}) || e != api.ErrArg {
			t.Errorf("%v..: Deepest = %d, %v, %d", l[0], n, p, e)
		}
		if p, e := cover.Divide(l); len(p) != 0 || e != api.ErrArg {
			t.Errorf("%v..: Divide = %v, %d", l[0], p, e)
		}
		if p, pair, e := cover.Meet(l); p != (api.Point{}) || len(pair) != 0 || e != api.ErrArg {
			t.Errorf("%v..: Meet = %v, %v, %d", l[0], p, pair, e)
		}
		if e := cover.Tiles(l, l); e != api.ErrArg {
			t.Errorf("%v..: Tiles of itself = %d", l[0], e)
		}
		if e := cover.Tiles(l, nil); e != api.ErrArg {
			t.Errorf("%v..: Tiles = %d", l[0], e)
		}
	}
}

// stairs has as many strips with as many parts as the rectangles can have.
func stairs() []api.Rect {
	var l []api.Rect
	for i := range api.MaxRects {
		l = append(l, api.Rect{X1: i, Y1: 2 * i, X2: i + api.MaxRects, Y2: 2*i + 1})
	}
	return l
}

func TestDivideMany(t *testing.T) {
	divided(t, stairs())
	var grid []api.Rect // half of them upright, half of them across
	for i := range api.MaxRects / 2 {
		grid = append(grid, api.Rect{X1: 4 * i, Y1: -256, X2: 4*i + 1, Y2: 256}, api.Rect{X1: -256, Y1: 4 * i, X2: 256, Y2: 4*i + 1})
	}
	divided(t, grid)
}

func TestTiles(t *testing.T) {
	cross := rects(0, 1, 3, 2, 1, 0, 2, 3)
	var small []api.Rect // MaxPieces cells
	for i := range api.MaxPieces {
		small = append(small, api.Rect{X1: i % 32, Y1: i / 32, X2: i%32 + 1, Y2: i/32 + 1})
	}
	more := append(slices.Clone(small), api.Rect{X1: 40, Y1: 40, X2: 41, Y2: 41})
	for _, x := range []struct {
		rects, pieces []api.Rect
		want          api.Errno
	}{
		{cross, rects(0, 1, 3, 2, 1, 0, 2, 1, 1, 2, 2, 3), api.OK},
		{cross, rects(1, 0, 2, 3, 0, 1, 1, 2, 2, 1, 3, 2), api.OK},
		{cross, cross, api.ErrAnswer},
		{cross, rects(0, 1, 3, 2, 1, 0, 2, 1), api.ErrAnswer},                         // a cell is missing
		{cross, rects(0, 1, 3, 2, 1, 0, 2, 1, 1, 2, 3, 3), api.ErrAnswer},             // a cell too many
		{cross, rects(0, 1, 3, 2, 1, 0, 2, 1, 2, 2, 3, 3), api.ErrAnswer},             // another cell
		{cross, rects(0, 1, 3, 2, 1, 0, 2, 1, 1, 2, 2, 3, 1, 2, 2, 3), api.ErrAnswer}, // a cell twice
		{cross, rects(0, 1, 3, 2, 1, 0, 2, 1, 1, 2, 2, 3, 1, 2, 1, 3), api.ErrAnswer}, // not a rectangle
		{cross, rects(3, 1, 0, 2, 1, 0, 2, 1, 1, 2, 2, 3), api.ErrAnswer},
		{cross, rects(0, 1, 3, 2, 1, 0, 2, 1, 1, 2, 2, 3, 256, 0, 257, 1), api.ErrAnswer},
		{cross, rects(math.MinInt, math.MinInt, math.MaxInt, math.MaxInt), api.ErrAnswer},
		{cross, nil, api.ErrAnswer},
		{nil, rects(0, 0, 1, 1), api.ErrAnswer},
		{nil, nil, api.OK},
		{rects(0, 0, 1, 1, 0, 0, 1, 1), rects(0, 0, 1, 1), api.OK},
		{rects(0, 0, 1, 1, 0, 0, 1, 1), rects(0, 0, 1, 1, 0, 0, 1, 1), api.ErrAnswer},
		{rects(0, 0, 32, 32), small, api.OK},
		{rects(0, 0, 32, 32, 40, 40, 41, 41), more, api.ErrAnswer}, // too many pieces
		{rects(0, 0, 32, 32), slices.Repeat(rects(0, 0, 32, 32), api.MaxPieces), api.ErrAnswer},
		{rects(-256, -256, 256, 256), rects(-256, -256, 256, 0, -256, 0, 256, 256), api.OK},
		{rects(-256, -256, 256, 256), rects(-256, -256, 256, 0, -256, 0, 256, 255), api.ErrAnswer},
	} {
		if e := cover.Tiles(x.rects, x.pieces); e != x.want {
			t.Errorf("Tiles(%v, %v..) = %d, not %d", x.rects, x.pieces[:min(4, len(x.pieces))], e, x.want)
		}
	}
}

// TestTilesRandom changes partitions a little, and holds Tiles against the definition.
func TestTilesRandom(t *testing.T) {
	r := rand.New(rand.NewSource(7))
	for range 300 {
		l := someRects(r, 1+r.Intn(4), 3)
		p := divided(t, l)
		at := &p[r.Intn(len(p))]
		side := []*int{&at.X1, &at.Y1, &at.X2, &at.Y2}[r.Intn(4)]
		*side += r.Intn(3) - 1
		want := api.ErrAnswer
		if tiles(l, p) {
			want = api.OK
		}
		if e := cover.Tiles(l, p); e != want {
			t.Errorf("Tiles(%v, %v) = %d, not %d", l, p, e, want)
		}
	}
}

func contains(r api.Rect, p api.Point) bool {
	return r.X1 <= p.X && p.X <= r.X2 && r.Y1 <= p.Y && p.Y <= r.Y2
}

func apart(a, b api.Rect) bool {
	return a.X2 < b.X1 || b.X2 < a.X1 || a.Y2 < b.Y1 || b.Y2 < a.Y1
}

// firstMeeting visits the points in the order of X, and then of Y.
func firstMeeting(l []api.Rect, reach int) (api.Point, bool) {
	for x := -reach; x <= reach; x++ {
		for y := -reach; y <= reach; y++ {
			p := api.Point{X: x, Y: y}
			if !slices.ContainsFunc(l, func(r api.Rect) bool { return !contains(r, p) }) {
				return p, true
			}
		}
	}
	return api.Point{}, false
}

func TestMeetKnown(t *testing.T) {
	for _, x := range []struct {
		rects []api.Rect
		point api.Point
		pair  []int
	}{
		{rects(0, 0, 2, 2, 1, 1, 3, 3), api.Point{X: 1, Y: 1}, nil},
		{rects(0, 0, 1, 1, 1, 1, 2, 2), api.Point{X: 1, Y: 1}, nil}, // a corner is a common point
		{rects(4, 5, 6, 7), api.Point{X: 4, Y: 5}, nil},
		{rects(4, 5, 6, 7, 4, 5, 6, 7), api.Point{X: 4, Y: 5}, nil},
		{rects(-256, -256, 256, 256), api.Point{X: -256, Y: -256}, nil},
		{rects(-256, -256, 0, 0, 0, 0, 256, 256), api.Point{}, nil},
		{rects(0, 0, 1, 1, 2, 0, 3, 1), api.Point{}, []int{0, 1}},
		{rects(2, 0, 3, 1, 0, 0, 1, 1), api.Point{}, []int{0, 1}},
		{rects(0, 2, 1, 3, 0, 0, 1, 1), api.Point{}, []int{0, 1}},
		{rects(0, 0, 9, 9, 0, 5, 9, 6, 5, 0, 6, 9, 0, 0, 9, 4), api.Point{}, []int{1, 3}},
		{rects(0, 0, 9, 9, 7, 0, 9, 9, 0, 0, 9, 9, 0, 0, 6, 9, 0, 0, 9, 9), api.Point{}, []int{1, 3}},
	} {
		p, pair, e := cover.Meet(x.rects)
		if p != x.point || !slices.Equal(pair, x.pair) || e != api.OK {
			t.Errorf("Meet(%v) = %v, %v, %d", x.rects, p, pair, e)
		}
	}
}

// TestMeetRandom also holds that rectangles have a common point if every two of them have one.
func TestMeetRandom(t *testing.T) {
	r := rand.New(rand.NewSource(8))
	met := 0
	for i := range 2000 {
		l := someRects(r, 1+r.Intn(5), 2+i%5)
		want, meets := firstMeeting(l, 6)
		p, pair, e := cover.Meet(l)
		if e != api.OK || p != want || meets != (len(pair) == 0) {
			t.Fatalf("Meet(%v) = %v, %v, %d", l, p, pair, e)
		}
		if meets {
			met++
		} else if len(pair) != 2 || pair[0] >= pair[1] || !apart(l[pair[0]], l[pair[1]]) {
			t.Fatalf("Meet(%v) = %v, %v, %d", l, p, pair, e)
		}
	}
	if met == 0 || met == 2000 {
		t.Errorf("%d of 2000 meet: these rectangles test nothing", met)
	}
}

func TestAreaProperties(t *testing.T) {
	r := rand.New(rand.NewSource(9))
	for range 300 {
		l := someRects(r, 1+r.Intn(4), 10)
		sum := 0
		for i := range l {
			n, _ := cover.Area(l[i : i+1])
			sum += n
		}
		area, _ := cover.Area(l)
		depth, _, _ := cover.Deepest(l)
		if area > sum || (area == sum) != (depth <= 1) {
			t.Errorf("%v: area %d, sum %d, depth %d", l, area, sum, depth)
		}
	}
}

func TestUnionsKeepNothing(t *testing.T) {
	l := rects(0, 0, 2, 2, 1, 1, 3, 3)
	p := divided(t, l)
	want := slices.Clone(p)
	clear(p)
	if again := divided(t, l); !slices.Equal(again, want) {
		t.Errorf("Divide returned %v, and then %v", want, again)
	}
	far := rects(0, 0, 1, 1, 5, 5, 6, 6)
	_, pair, _ := cover.Meet(far)
	clear(pair)
	if _, again, _ := cover.Meet(far); !slices.Equal(again, []int{0, 1}) {
		t.Errorf("Meet returned %v", again)
	}
}
