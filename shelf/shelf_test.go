package shelf_test

import (
	"fmt"
	"math"
	"math/rand"
	"slices"
	"testing"

	"ticking/api"
	"ticking/shelf"
)

func numbers(x *rand.Rand, count, n int) []int {
	list := make([]int, count)
	for i := range list {
		list[i] = x.Intn(n)
	}
	return list
}

// someRequests makes random requests: for many pages or few, near to the last ones, or in turns.
func someRequests(x *rand.Rand, count, pages int) []int {
	list := numbers(x, count, 1+x.Intn(pages))
	kind := x.Intn(4)
	for i := range list {
		switch {
		case kind == 1 && i > 0 && x.Intn(3) > 0:
			list[i] = list[max(0, i-1-x.Intn(4))]
		case kind == 2 && i > 0:
			list[i] = (list[i-1] + 1) % pages
		case kind == 3 && i >= pages && x.Intn(8) > 0:
			list[i] = list[i-pages]
		}
	}
	return list
}

func manyRequests(seed int64, lists, count, pages int) [][]int {
	x := rand.New(rand.NewSource(seed))
	var all [][]int
	for range lists {
		all = append(all, someRequests(x, x.Intn(count+1), 1+x.Intn(pages)))
	}
	return all
}

// allLists lists the lists of so many numbers from low to high.
func allLists(count, low, high int) [][]int {
	if count == 0 {
		return [][]int{nil}
	}
	var all [][]int
	for _, list := range allLists(count-1, low, high) {
		for k := low; k <= high; k++ {
			all = append(all, append(slices.Clone(list), k))
		}
	}
	return all
}

// smallRequests lists all requests of at most so many for the first pages.
func smallRequests(count, pages int) [][]int {
	var all [][]int
	for n := range count + 1 {
		all = append(all, allLists(n, 0, pages-1)...)
	}
	return all
}

// measure follows the document: the faults of a plan, and whether it is correct.
func measure(requests []int, k int, plan []int) (int, bool) {
	if len(plan) != len(requests) {
		return 0, false
	}
	faults := 0
	var places []int
	for i, page := range requests {
		if slices.Contains(places, page) {
			if plan[i] != -1 {
				return 0, false
			}
			continue
		}
		faults++
		if len(places) < k {
			if plan[i] != -1 {
				return 0, false
			}
		} else {
			p := slices.Index(places, plan[i])
			if p < 0 {
				return 0, false
			}
			places = slices.Delete(places, p, p+1)
		}
		places = append(places, page)
	}
	return faults, true
}

// played serves the requests as the document says; choose returns the page that is removed before the request at a position.
func played(requests []int, k int, choose func(places []int, at int) int) (int, []int) {
	faults := 0
	var places, plan []int // the places in the order in which the pages were put there
	for at, page := range requests {
		removed := -1
		if !slices.Contains(places, page) {
			faults++
			if len(places) == k {
				removed = choose(places, at)
				p := slices.Index(places, removed)
				places = slices.Delete(places, p, p+1)
			}
			places = append(places, page)
		}
		plan = append(plan, removed)
	}
	return faults, plan
}

func playRecent(requests []int, k int) (int, []int) {
	return played(requests, k, func(places []int, at int) int {
		last := at
		removed := -1
		for _, page := range places {
			p := at - 1
			for requests[p] != page {
				p--
			}
			if p < last {
				last, removed = p, page
			}
		}
		return removed
	})
}

func playFirst(requests []int, k int) (int, []int) {
	return played(requests, k, func(places []int, _ int) int { return places[0] })
}

// fewest tries all pages that can be removed, for all that can be on the shelf.
func fewest(requests []int, k int) int {
	least := map[int]int{0: 0} // for sets of pages
	for _, page := range requests {
		next := map[int]int{}
		note := func(set, faults int) {
			if old, ok := next[set]; !ok || faults < old {
				next[set] = faults
			}
		}
		for set, faults := range least {
			count := 0
			for p := range 16 {
				count += set >> p & 1
			}
			switch {
			case set>>page&1 == 1:
				note(set, faults)
			case count < k:
				note(set|1<<page, faults+1)
			default:
				for p := range 16 {
					if set>>p&1 == 1 {
						note(set&^(1<<p)|1<<page, faults+1)
					}
				}
			}
		}
		least = next
	}
	result := math.MaxInt
	for _, faults := range least {
		result = min(result, faults)
	}
	return result
}

type strategy struct {
	name string
	call func([]int, int) (int, []int, api.Errno)
}

func strategies() []strategy {
	return []strategy{{"Recent", shelf.Recent}, {"First", shelf.First}, {"Best", shelf.Best}}
}

func TestShelfExamples(t *testing.T) {
	requests := []int{0, 1, 2, 0, 1, 3, 0, 1, 2, 3}
	if n, plan, e := shelf.Recent(requests, 2); n != 10 || !slices.Equal(plan, []int{-1, -1, 0, 1, 2, 0, 1, 3, 0, 1}) || e != api.OK {
		t.Errorf("Recent = %d, %v, %d", n, plan, e)
	}
	if n, plan, e := shelf.Best(requests, 2); n != 7 || e != api.OK {
		t.Errorf("Best = %d, %v, %d", n, plan, e)
	} else if f, ok := measure(requests, 2, plan); f != 7 || !ok {
		t.Errorf("the plan of Best, %v, has %d faults", plan, f)
	}
	requests = []int{0, 1, 2, 3, 0, 1, 4, 0, 1, 2, 3, 4}
	if n, plan, e := shelf.First(requests, 3); n != 9 || !slices.Equal(plan, []int{-1, -1, -1, 0, 1, 2, 3, -1, -1, 0, 1, -1}) || e != api.OK {
		t.Errorf("First = %d, %v, %d", n, plan, e)
	}
	if n, plan, e := shelf.First(requests, 4); n != 10 || !slices.Equal(plan, []int{-1, -1, -1, -1, -1, -1, 0, 1, 2, 3, 4, 0}) || e != api.OK {
		t.Errorf("First = %d, %v, %d", n, plan, e)
	}
}

// checkStrategies compares the three strategies with what the document says of them.
func checkStrategies(t *testing.T, requests []int, k int) {
	t.Helper()
	faults, want := playRecent(requests, k)
	if n, plan, e := shelf.Recent(requests, k); n != faults || !slices.Equal(plan, want) || e != api.OK {
		t.Fatalf("Recent(%v, %d) = %d, %v, %d, not %d, %v", requests, k, n, plan, e, faults, want)
	}
	faults, want = playFirst(requests, k)
	if n, plan, e := shelf.First(requests, k); n != faults || !slices.Equal(plan, want) || e != api.OK {
		t.Fatalf("First(%v, %d) = %d, %v, %d, not %d, %v", requests, k, n, plan, e, faults, want)
	}
	faults = fewest(requests, k)
	n, plan, e := shelf.Best(requests, k)
	if count, ok := measure(requests, k, plan); n != faults || count != faults || !ok || e != api.OK {
		t.Fatalf("Best(%v, %d) = %d, %v, %d, not %d", requests, k, n, plan, e, faults)
	}
}

// P8.1: all requests of a few, and random ones, for all numbers of places.
func TestStrategies(t *testing.T) {
	for _, requests := range slices.Concat(smallRequests(6, 4), smallRequests(8, 3), manyRequests(1, 400, 40, 7)) {
		for k := 1; k <= 4; k++ {
			checkStrategies(t, requests, k)
		}
	}
	for _, requests := range slices.Concat(manyRequests(2, 20, 200, 9), manyRequests(3, 2, 200, 16)) {
		for k := 1; k <= 8; k++ {
			checkStrategies(t, requests, k)
		}
	}
}

// checkFaults tests that Faults returns what the definition says.
func checkFaults(t *testing.T, requests []int, k int, plan []int) bool {
	t.Helper()
	faults, ok := measure(requests, k, plan)
	want := api.OK
	if !ok {
		want = api.ErrAnswer
	}
	if n, e := shelf.Faults(requests, k, plan); n != faults || e != want {
		t.Fatalf("Faults(%v, %d, %v) = %d, %d, not %d, %d", requests, k, plan, n, e, faults, want)
	}
	return ok
}

// P8.1: all plans for all small requests, the plans of the strategies, and what is near to them.
func TestFaults(t *testing.T) {
	right, wrong := 0, 0
	check := func(requests []int, k int, plan []int) {
		if checkFaults(t, requests, k, plan) {
			right++
		} else {
			wrong++
		}
	}
	for _, requests := range smallRequests(5, 3) {
		for _, plan := range allLists(len(requests), -1, 2) {
			for k := 1; k <= 3; k++ {
				check(requests, k, plan)
			}
		}
	}
	x := rand.New(rand.NewSource(4))
	for _, requests := range manyRequests(5, 200, 200, 16) {
		for k := 1; k <= 8; k++ {
			for _, s := range strategies() {
				_, plan, _ := s.call(requests, k)
				check(requests, k, plan)
				check(requests, k, append(slices.Clone(plan), -1))
				if len(plan) > 0 {
					check(requests, k, plan[1:])
					check(requests, k, plan[:len(plan)-1])
					plan[x.Intn(len(plan))] = x.Intn(17) - 1
					check(requests, k, plan)
				}
			}
		}
	}
	if right < 1000 || wrong < 1000 {
		t.Errorf("%d plans are correct, %d are wrong", right, wrong)
	}
}

func TestFaultsNamed(t *testing.T) {
	requests := []int{5, 6, 5, 7, 6}
	for _, c := range []struct {
		k      int
		plan   []int
		faults int
		want   api.Errno
	}{
		{2, []int{-1, -1, -1, 5, -1}, 3, api.OK},
		{2, []int{-1, -1, -1, 6, 5}, 4, api.OK},
		{2, []int{-1, -1, -1, 6, 7}, 4, api.OK},
		{3, []int{-1, -1, -1, -1, -1}, 3, api.OK},
		{8, []int{-1, -1, -1, -1, -1}, 3, api.OK},
		{1, []int{-1, 5, 6, 5, 7}, 5, api.OK},
		// No page is removed although all places are used.
		{2, []int{-1, -1, -1, -1, -1}, 0, api.ErrAnswer},
		{1, []int{-1, -1, -1, 5, -1}, 0, api.ErrAnswer},
		// A page is removed although there is a place, or no fault.
		{3, []int{-1, -1, -1, 5, -1}, 0, api.ErrAnswer},
		{3, []int{-1, 5, -1, -1, -1}, 0, api.ErrAnswer},
		{2, []int{-1, -1, 6, 5, -1}, 0, api.ErrAnswer},
		{2, []int{-1, -1, 5, 5, -1}, 0, api.ErrAnswer},
		{2, []int{-1, -1, -1, 5, 7}, 0, api.ErrAnswer},
		// The page is not on the shelf, is the requested one, or is none.
		{2, []int{-1, -1, -1, 4, -1}, 0, api.ErrAnswer},
		{2, []int{-1, -1, -1, 7, -1}, 0, api.ErrAnswer},
		{2, []int{-1, -1, -1, 0, -1}, 0, api.ErrAnswer},
		{2, []int{-1, -1, -1, 6, 6}, 0, api.ErrAnswer},
		{2, []int{-1, -1, -1, -2, -1}, 0, api.ErrAnswer},
		{2, []int{-1, -1, -1, 16, -1}, 0, api.ErrAnswer},
		{2, []int{-1, -1, -1, math.MaxInt, -1}, 0, api.ErrAnswer},
		{2, []int{-1, -1, -1, math.MinInt, -1}, 0, api.ErrAnswer},
		{2, []int{-2, -1, -1, 5, -1}, 0, api.ErrAnswer},
		{2, []int{5, -1, -1, 5, -1}, 0, api.ErrAnswer},
		{2, []int{math.MinInt, -1, -1, 5, -1}, 0, api.ErrAnswer},
		// Too short, too long.
		{2, nil, 0, api.ErrAnswer},
		{2, []int{}, 0, api.ErrAnswer},
		{2, []int{-1, -1, -1, 5}, 0, api.ErrAnswer},
		{2, []int{-1, -1, -1, 5, -1, -1}, 0, api.ErrAnswer},
		{2, make([]int, 1000), 0, api.ErrAnswer},
	} {
		if n, e := shelf.Faults(requests, c.k, c.plan); n != c.faults || e != c.want {
			t.Errorf("Faults with %d places and %v = %d, %d", c.k, c.plan, n, e)
		}
		checkFaults(t, requests, c.k, c.plan)
	}
	for _, plan := range [][]int{{-1}, {0}} {
		if n, e := shelf.Faults(nil, 1, plan); n != 0 || e != api.ErrAnswer {
			t.Errorf("Faults of no requests with %v = %d, %d", plan, n, e)
		}
	}
}

// P8.2: a curve is what Recent returns for each number of places.
func TestCurve(t *testing.T) {
	for _, requests := range slices.Concat(smallRequests(5, 3), manyRequests(6, 300, 200, 16)) {
		var want []int
		for k := 1; k <= 8; k++ {
			faults, _ := playRecent(requests, k)
			want = append(want, faults)
		}
		if curve, e := shelf.Curve(requests); !slices.Equal(curve, want) || e != api.OK {
			t.Fatalf("Curve(%v) = %v, %d, not %v", requests, curve, e, want)
		}
	}
	if curve, e := shelf.Curve([]int{0, 1, 2, 0, 1, 2}); !slices.Equal(curve, []int{6, 6, 3, 3, 3, 3, 3, 3}) || e != api.OK {
		t.Errorf("Curve = %v, %d", curve, e)
	}
	if curve, e := shelf.Curve(nil); !slices.Equal(curve, make([]int, 8)) || e != api.OK {
		t.Errorf("Curve of no requests = %v, %d", curve, e)
	}
}

// phasesOf follows the document: where a phase begins, looking for the beginning of the next one.
func phasesOf(requests []int, k int) []int {
	var starts []int
	for at := 0; at < len(requests); {
		starts = append(starts, at)
		end := at
		for end < len(requests) {
			pages := slices.Sorted(slices.Values(requests[at : end+1]))
			if len(slices.Compact(pages)) > k {
				break
			}
			end++
		}
		at = end
	}
	return starts
}

// P8.2.
func TestPhases(t *testing.T) {
	for _, requests := range slices.Concat(smallRequests(6, 3), manyRequests(7, 200, 200, 16)) {
		for k := 1; k <= 8; k++ {
			want := phasesOf(requests, k)
			if starts, e := shelf.Phases(requests, k); !slices.Equal(starts, want) || e != api.OK {
				t.Fatalf("Phases(%v, %d) = %v, %d, not %v", requests, k, starts, e, want)
			}
		}
	}
	for _, c := range []struct {
		k      int
		starts []int
	}{
		{1, []int{0, 1, 2, 3, 5, 6}},
		{2, []int{0, 2, 5}},
		{3, []int{0, 6}},
		{4, []int{0}},
		{8, []int{0}},
	} {
		if starts, e := shelf.Phases([]int{0, 1, 2, 0, 0, 1, 3}, c.k); !slices.Equal(starts, c.starts) || e != api.OK {
			t.Errorf("Phases with %d = %v, %d", c.k, starts, e)
		}
	}
	if starts, e := shelf.Phases(nil, 3); len(starts) != 0 || e != api.OK {
		t.Errorf("Phases of no requests = %v, %d", starts, e)
	}
}

// P8.4: what holds of the faults.
func TestFaultsAreBounded(t *testing.T) {
	x := rand.New(rand.NewSource(8))
	for _, requests := range slices.Concat(smallRequests(6, 4), manyRequests(9, 300, 200, 16)) {
		before := [3]int{math.MaxInt, 0, math.MaxInt}
		for k := 1; k <= 8; k++ {
			var faults [3]int
			for i, s := range strategies() {
				faults[i], _, _ = s.call(requests, k)
			}
			some, _ := played(requests, k, func(places []int, _ int) int { return places[x.Intn(len(places))] })
			if least := min(some, faults[1]); faults[0] > k*faults[2]+k || faults[2] > least || faults[2] > faults[0] {
				t.Fatalf("%v, %d places: %v faults, some plan has %d", requests, k, faults, least)
			}
			if faults[0] > before[0] || faults[2] > before[2] {
				t.Fatalf("%v: %v faults with %d places, %v with one less", requests, faults, k, before)
			}
			if starts, _ := shelf.Phases(requests, k); faults[2] < len(starts) {
				t.Fatalf("%v, %d places: %d faults, %v phases", requests, k, faults[2], starts)
			}
			before = faults
		}
	}
}

// checkRefused tests that every function of the shelf returns ErrArg, and nothing else; wrong is true if the requests themselves are wrong.
func checkRefused(t *testing.T, requests []int, k int, wrong bool) {
	t.Helper()
	for _, s := range strategies() {
		if n, plan, e := s.call(requests, k); n != 0 || len(plan) != 0 || e != api.ErrArg {
			t.Errorf("%s(%v, %d) = %d, %v, %d", s.name, requests, k, n, plan, e)
		}
	}
	for _, plan := range [][]int{nil, {7, 7}, slices.Repeat([]int{-1}, len(requests))} {
		if n, e := shelf.Faults(requests, k, plan); n != 0 || e != api.ErrArg {
			t.Errorf("Faults(%v, %d, %v) = %d, %d", requests, k, plan, n, e)
		}
	}
	if starts, e := shelf.Phases(requests, k); len(starts) != 0 || e != api.ErrArg {
		t.Errorf("Phases(%v, %d) = %v, %d", requests, k, starts, e)
	}
	if curve, e := shelf.Curve(requests); wrong && (len(curve) != 0 || e != api.ErrArg) {
		t.Errorf("Curve(%v) = %v, %d", requests, curve, e)
	}
}

func TestShelfRefuses(t *testing.T) {
	for _, k := range []int{0, -1, 9, 16, math.MinInt, math.MaxInt} {
		for _, requests := range [][]int{nil, {}, {3}, {1, 2, 1}} {
			checkRefused(t, requests, k, false)
		}
	}
	for _, page := range []int{-1, 16, 17, math.MinInt, math.MaxInt} {
		for at := range 3 {
			requests := []int{1, 2, 1}
			requests[at] = page
			for _, k := range []int{1, 8, 0, 9} {
				checkRefused(t, requests, k, true)
			}
		}
	}
	for _, count := range []int{201, 1000} {
		for _, k := range []int{1, 8, 0} {
			checkRefused(t, make([]int, count), k, true)
		}
	}
}

// As many requests, pages and places as are allowed, and none.
func TestShelfLimits(t *testing.T) {
	var turns []int
	for i := range 200 {
		turns = append(turns, i%16)
	}
	for _, requests := range [][]int{turns, make([]int, 200), slices.Repeat([]int{15, 0}, 100), nil, {}} {
		for _, k := range []int{1, 2, 8} {
			for _, s := range strategies() {
				n, plan, e := s.call(requests, k)
				if faults, ok := measure(requests, k, plan); n != faults || !ok || e != api.OK {
					t.Errorf("%s(%v, %d) = %d, %v, %d", s.name, requests, k, n, plan, e)
				}
				checkFaults(t, requests, k, plan)
			}
		}
	}
	if curve, e := shelf.Curve(turns); !slices.Equal(curve, slices.Repeat([]int{200}, 8)) || e != api.OK {
		t.Errorf("Curve = %v, %d", curve, e)
	}
}

// results calls every function.
func results(requests []int, k int, plan []int, m int, rolls []int, history [][]int) []any {
	var list []any
	for _, s := range strategies() {
		n, p, e := s.call(requests, k)
		list = append(list, n, p, e)
	}
	n, e := shelf.Faults(requests, k, plan)
	list = append(list, n, e)
	curve, e := shelf.Curve(requests)
	list = append(list, curve, e)
	starts, e := shelf.Phases(requests, k)
	list = append(list, starts, e)
	cost, last, e := shelf.Front(m, rolls)
	list = append(list, cost, last, e)
	cost, h, e := shelf.Ideal(m, rolls)
	list = append(list, cost, e)
	for _, o := range h {
		list = append(list, o)
	}
	cost, e = shelf.Cost(m, rolls, history)
	list = append(list, cost, e)
	if len(history) > 0 {
		pairs, e := shelf.Turned(history[0], history[len(history)-1])
		list = append(list, pairs, e)
	}
	return append(list, h)
}

// spoil changes a list, and the memory behind its end.
func spoil(result any) {
	switch r := result.(type) {
	case []int:
		r = r[:cap(r)]
		for i := range r {
			r[i] = -7
		}
	case [][]int:
		clear(r[:cap(r)])
	}
}

// Calls change no argument, keep none of the lists, share none of them, and return the same each time.
func TestArgumentsStay(t *testing.T) {
	x := rand.New(rand.NewSource(10))
	for i, requests := range manyRequests(11, 60, 200, 16) {
		k, m := 1+x.Intn(8), 1+x.Intn(4)
		if i%10 == 0 {
			m = 6
		}
		rolls := numbers(x, x.Intn(21), m)
		_, plan, _ := shelf.Best(requests, k)
		_, history, _ := shelf.Ideal(m, rolls)
		before := fmt.Sprint(requests, plan, rolls, history)
		first := results(requests, k, plan, m, rolls, history)
		text := fmt.Sprint(first)
		// The history is the last result: its orders come one by one before it.
		for at := range len(first) - 1 {
			spoil(first[at])
			rest := first[at+1 : len(first)-1]
			again := results(requests, k, plan, m, rolls, history)
			if fmt.Sprint(rest) != fmt.Sprint(again[at+1:len(again)-1]) || fmt.Sprint(again) != text {
				t.Fatalf("%v, %v: results share memory", requests, rolls)
			}
		}
		spoil(first[len(first)-1])
		if again := results(requests, k, plan, m, rolls, history); fmt.Sprint(again) != text {
			t.Fatalf("%v, then %v", text, again)
		}
		if after := fmt.Sprint(requests, plan, rolls, history); after != before {
			t.Fatalf("%s has become %s", before, after)
		}
	}
}
