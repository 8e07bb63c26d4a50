package shelf

import (
	"cmp"
	"maps"
	"slices"
)

// none stands in a plan where no page is removed.
const none = -1

// stay is the time of a page on the shelf: the positions of the request that put it there, and of the last request for it.
type stay struct {
	since, last int
}

func lastUse(s stay) int { return s.last }

// shelf is the shelf with its pages, and the number of its faults so far.
type shelf struct {
	places int
	pages  map[int]stay
	faults int
}

func emptyShelf(places int) *shelf {
	return &shelf{places: places, pages: map[int]stay{}}
}

// lacks reports whether a page must be removed before this one can be served.
func (s *shelf) lacks(page int) bool {
	_, there := s.pages[page]
	return !there && len(s.pages) == s.places
}

// allows reports whether this page can be served by removing that one, or none.
func (s *shelf) allows(page, removed int) bool {
	if !s.lacks(page) {
		return removed == none
	}
	_, there := s.pages[removed]
	return there
}

// serve answers the request at this position after removing a page, or none.
func (s *shelf) serve(at, page, removed int) {
	if removed != none {
		delete(s.pages, removed)
	}
	kept, there := s.pages[page]
	if !there {
		s.faults++
		kept.since = at
	}
	kept.last = at
	s.pages[page] = kept
}

// lowest returns the page on the shelf with the lowest rank, of equal ones the smallest, so that it does not depend on the order of the map.
func (s *shelf) lowest(rank func(stay) int) int {
	return slices.MinFunc(slices.Sorted(maps.Keys(s.pages)), func(a, b int) int {
		return cmp.Compare(rank(s.pages[a]), rank(s.pages[b]))
	})
}

// run returns the number of faults, and the plan, of always removing the page with the lowest rank.
func run(requests []int, k int, rank func(stay) int) (int, []int) {
	s := emptyShelf(k)
	plan := make([]int, len(requests))
	for at, page := range requests {
		plan[at] = none
		if s.lacks(page) {
			plan[at] = s.lowest(rank)
		}
		s.serve(at, page, plan[at])
	}
	return s.faults, plan
}

// nextRequests returns for each request the position of the next one for the same page, or the number of requests if there is none.
func nextRequests(requests []int) []int {
	next := make([]int, len(requests))
	seen := map[int]int{}
	for at, page := range slices.Backward(requests) {
		later, ok := seen[page]
		if !ok {
			later = len(requests)
		}
		next[at] = later
		seen[page] = at
	}
	return next
}
