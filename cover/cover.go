// Package cover is exact geometry for mattress covers (layer 1): the smallest circle that encloses points, and unions of rectangles.
package cover

import "ticking/api"

func isCoordinate(n int) bool { return -api.MaxCoord <= n && n <= api.MaxCoord }

func isPoint(p api.Point) bool { return isCoordinate(p.X) && isCoordinate(p.Y) }

func arePoints(points []api.Point) bool {
	if len(points) == 0 || len(points) > api.MaxPoints {
		return false
	}
	for _, p := range points {
		if !isPoint(p) {
			return false
		}
	}
	return true
}

func isRect(r api.Rect) bool {
	return isCoordinate(r.X1) && isCoordinate(r.Y1) && isCoordinate(r.X2) && isCoordinate(r.Y2) && r.X1 < r.X2 && r.Y1 < r.Y2
}

// areRects reports whether the list has at most the given number of entries, and all of them are rectangles.
func areRects(rects []api.Rect, most int) bool {
	if len(rects) > most {
		return false
	}
	for _, r := range rects {
		if !isRect(r) {
			return false
		}
	}
	return true
}
