package scores_test

import (
	"math"
	"math/rand"
	"slices"
	"testing"

	"ticking/api"
	"ticking/scores"
)

// contestOf makes the contest of n players in which the first one of a pair has won if won says so.
func contestOf(n int, won func(a, b int) bool) [][]int {
	c := make([][]int, n)
	for a := range c {
		c[a] = make([]int, n)
	}
	for _, pair := range allPairs(n) {
		if won(pair[0], pair[1]) {
			c[pair[0]][pair[1]] = 1
		} else {
			c[pair[1]][pair[0]] = 1
		}
	}
	return c
}

// allContests lists the contests of n players.
func allContests(n int) [][][]int {
	pairs := allPairs(n)
	all := make([][][]int, 1<<len(pairs))
	for set := range all {
		all[set] = contestOf(n, func(a, b int) bool { return set>>slices.Index(pairs, [2]int{a, b})&1 == 1 })
	}
	return all
}

// someContest makes a random contest: all results with the same chance, or most of them won by the greater of two players.
func someContest(x *rand.Rand, n int) [][]int {
	chance := []float64{0.5, 0.2, 0.05, 0}[x.Intn(4)]
	names := x.Perm(n)
	return contestOf(n, func(a, b int) bool { return names[a] > names[b] != (x.Float64() < chance) })
}

func scoresIn(c [][]int) []int {
	list := make([]int, len(c))
	for player, row := range c {
		list[player] = total(row)
	}
	return list
}

// isContest follows the document.
func isContest(c [][]int) bool {
	for a, row := range c {
		if len(row) != len(c) || row[a] != 0 {
			return false
		}
		for b, x := range row {
			if x != 0 && x != 1 || len(c[b]) != len(c) || a != b && x+c[b][a] != 1 {
				return false
			}
		}
	}
	return len(c) <= 30
}

// contestShown follows the document: whether CheckContest must return OK.
func contestShown(list []int, c [][]int, k int) bool {
	n := len(list)
	switch {
	case k == 0:
		return len(c) == n && isContest(c) && slices.Equal(scoresIn(c), list)
	case k == -1:
		return len(c) == 0 && total(list) != n*(n-1)/2
	}
	sorted := slices.Clone(list)
	slices.Sort(sorted)
	return len(c) == 0 && k >= 1 && k <= n && total(sorted[:k]) < k*(k-1)/2
}

// checkContest tests what Contest and CheckContest say of the scores.
func checkContest(t *testing.T, list []int, there bool) {
	t.Helper()
	before := slices.Clone(list)
	n := len(list)
	c, k, e := scores.Contest(list)
	if e != api.OK || !contestShown(list, c, k) || there != (k == 0) || (total(list) != n*(n-1)/2) != (k == -1) {
		t.Fatalf("Contest(%v) = %v, %d, %d; there is one: %v", list, c, k, e, there)
	}
	if e := scores.CheckContest(list, c, k); e != api.OK {
		t.Fatalf("CheckContest(%v, %v, %d) = %d", list, c, k, e)
	}
	if !slices.Equal(list, before) {
		t.Fatalf("Contest changed %v to %v", before, list)
	}
}

func wantCheckContest(t *testing.T, list []int, c [][]int, k int) {
	t.Helper()
	want := api.ErrAnswer
	if contestShown(list, c, k) {
		want = api.OK
	}
	if e := scores.CheckContest(list, c, k); e != want {
		t.Fatalf("CheckContest(%v, %v, %d) = %d, not %d", list, c, k, e, want)
	}
}

func TestContestExample(t *testing.T) {
	c, k, e := scores.Contest([]int{1, 1, 1})
	kings, f := scores.Kings(c)
	if k != 0 || e != api.OK || !slices.Equal(kings, []int{0, 1, 2}) || f != api.OK {
		t.Errorf("Contest(1 1 1) = %v, %d, %d with the kings %v, %d", c, k, e, kings, f)
	}
	if c, k, e := scores.Contest([]int{2, 2, 2}); len(c) != 0 || k != -1 || e != api.OK {
		t.Errorf("Contest(2 2 2) = %v, %d, %d", c, k, e)
	}
	if c, k, e := scores.Contest([]int{3, 3, 0, 0}); len(c) != 0 || k != 2 || e != api.OK {
		t.Errorf("Contest(3 3 0 0) = %v, %d, %d", c, k, e)
	}
}

// P9.2 and P9.6: all small scores, against all contests.
func TestAllScores(t *testing.T) {
	for n := range 7 {
		there := map[string]bool{}
		for _, c := range allContests(n) {
			there[key(scoresIn(c))] = true
		}
		for _, list := range allLists(n, 0, min(n+1, 6)) {
			checkContest(t, list, there[key(list)])
			for k := -3; k <= n+3; k++ {
				wantCheckContest(t, list, nil, k)
			}
		}
	}
}

// P9.2: all small scores, with all contests, also those of another number of players.
func TestScoresWithContests(t *testing.T) {
	var all [][][]int
	for n := range 5 {
		all = append(all, allContests(n)...)
	}
	for n := range 5 {
		for _, list := range allLists(n, 0, n) {
			for _, c := range all {
				for _, k := range []int{-2, -1, 0, 1, n, n + 1} {
					wantCheckContest(t, list, c, k)
				}
			}
		}
	}
}

// allSquares lists all n lists of n numbers from low to high.
func allSquares(n, low, high int) [][][]int {
	var all [][][]int
	for _, list := range allLists(n*n, low, high) {
		all = append(all, slices.Collect(slices.Chunk(list, n)))
	}
	return all
}

// smallSquares lists squares of numbers, most of which are no contests.
func smallSquares() [][][]int {
	all := append(allSquares(1, -2, 3), allSquares(2, -1, 2)...)
	return append(all, allSquares(3, 0, 1)...)
}

// P9.2 and P9.3: what is a contest, and what is not.
func TestSquares(t *testing.T) {
	for _, c := range smallSquares() {
		for _, list := range allLists(len(c), 0, len(c)-1) {
			wantCheckContest(t, list, c, 0)
		}
		if isContest(c) {
			checkPlayers(t, c)
		} else {
			checkNoContest(t, c)
		}
	}
}

// P9.2: scores of random contests, up to the limits, and what is near to them.
func TestManyScores(t *testing.T) {
	x := rand.New(rand.NewSource(2))
	for range 1500 {
		n := 1 + x.Intn(30)
		c := someContest(x, n)
		list := scoresIn(c)
		checkContest(t, list, true)
		wantCheckContest(t, list, c, 0)
		for k := -1; k <= n; k++ {
			wantCheckContest(t, list, nil, k)
		}
		for range 4 {
			from, to := x.Intn(n), x.Intn(n)
			if list[from] > 0 && list[to] < 30 {
				list[from]--
				list[to]++
			}
			_, k, _ := scores.Contest(list)
			checkContest(t, list, k == 0)
			wantCheckContest(t, list, c, 0)
		}
		list[x.Intn(n)] = x.Intn(31)
		_, k, _ := scores.Contest(list)
		checkContest(t, list, k == 0)
	}
}

func TestScoresNamed(t *testing.T) {
	repeat := func(score, count int) []int { return slices.Repeat([]int{score}, count) }
	var each []int
	for score := range 30 {
		each = append(each, score)
	}
	for _, c := range []struct {
		list  []int
		there bool
	}{
		{nil, true},
		{[]int{0}, true},
		{[]int{1}, false},
		{[]int{0, 1}, true},
		{[]int{0, 0}, false},
		{[]int{0, 0, 3}, false},
		{[]int{30}, false},
		{each, true},
		{append(slices.Clone(each[:29]), 30), false},
		{repeat(14, 29), true},
		{repeat(0, 30), false},
		{repeat(30, 30), false},
		{append(repeat(14, 15), repeat(15, 15)...), true},
		{append(repeat(7, 15), repeat(22, 15)...), true},
		{append(append(repeat(7, 14), 6), append(repeat(22, 14), 23)...), false},
	} {
		checkContest(t, c.list, c.there)
	}
}

// P9.2: a k is right whatever the sum is, and only with an empty contest.
func TestCheckContestNamed(t *testing.T) {
	cycle := [][]int{{0, 1, 0}, {0, 0, 1}, {1, 0, 0}}
	for _, c := range []struct {
		list    []int
		contest [][]int
		k       int
		want    api.Errno
	}{
		{[]int{1, 1, 1}, cycle, 0, api.OK},
		{[]int{1, 1, 1}, nil, 0, api.ErrAnswer},
		{[]int{1, 1, 1}, cycle, 1, api.ErrAnswer},
		{[]int{1, 1, 1}, cycle, -1, api.ErrAnswer},
		{[]int{2, 1, 0}, cycle, 0, api.ErrAnswer},
		{[]int{1, 1}, cycle, 0, api.ErrAnswer},
		{[]int{1, 1, 1, 0}, cycle, 0, api.ErrAnswer},
		{[]int{0, 0, 1}, nil, 2, api.OK},
		{[]int{0, 0, 1}, nil, 3, api.OK},
		{[]int{0, 0, 1}, nil, -1, api.OK},
		{[]int{0, 0, 1}, [][]int{}, -1, api.OK},
		{[]int{0, 0, 1}, cycle, -1, api.ErrAnswer},
		{[]int{0, 0, 1}, cycle, 2, api.ErrAnswer},
		{[]int{0, 0, 1}, nil, 1, api.ErrAnswer},
		{[]int{0, 0, 1}, nil, 4, api.ErrAnswer},
		{[]int{0, 0, 1}, nil, -2, api.ErrAnswer},
		{[]int{0, 0, 1}, nil, math.MinInt, api.ErrAnswer},
		{[]int{0, 0, 1}, nil, math.MaxInt, api.ErrAnswer},
		{[]int{0, 0, 3}, nil, 2, api.OK},
		{[]int{3, 0, 0}, nil, 2, api.OK},
		{[]int{0, 0, 3}, nil, -1, api.ErrAnswer},
		{nil, nil, 0, api.OK},
		{nil, nil, -1, api.ErrAnswer},
		{nil, nil, 1, api.ErrAnswer},
		{nil, [][]int{{}}, 0, api.ErrAnswer},
	} {
		if e := scores.CheckContest(c.list, c.contest, c.k); e != c.want {
			t.Errorf("CheckContest(%v, %v, %d) = %d", c.list, c.contest, c.k, e)
		}
	}
}

func TestContestRefuses(t *testing.T) {
	for _, list := range notNumbers() {
		if c, k, e := scores.Contest(list); len(c) != 0 || k != 0 || e != api.ErrArg {
			t.Errorf("Contest(%v) = %v, %d, %d", list, c, k, e)
		}
		for _, k := range []int{-2, -1, 0, 1, len(list)} {
			for _, c := range [][][]int{nil, {{0}}, {{1}}, {nil, nil}} {
				if e := scores.CheckContest(list, c, k); e != api.ErrArg {
					t.Errorf("CheckContest(%v, %v, %d) = %d", list, c, k, e)
				}
			}
		}
	}
}

// P2 and Rule 5: the lists of a contest share no memory, neither among each other nor with those of another one.
func TestContestMemory(t *testing.T) {
	list := []int{2, 2, 2, 2, 2}
	first, _, _ := scores.Contest(list)
	second, _, _ := scores.Contest(list)
	for a := range first {
		if !slices.Equal(first[a], second[a]) {
			t.Fatalf("two contests: %v, %v", first, second)
		}
		for b := range first[a] {
			first[a][b] = 7
		}
		_ = append(first[a], 8, 8, 8, 8, 8)
		if a+1 < len(first) && !slices.Equal(first[a+1], second[a+1]) || slices.Contains(second[a], 7) {
			t.Fatalf("row %d shares memory: %v, %v", a, first, second)
		}
	}
}

// everyoneOnce reports whether the list contains each of n players once.
func everyoneOnce(n int, list []int) bool {
	sorted := slices.Clone(list)
	slices.Sort(sorted)
	for i, player := range sorted {
		if player != i {
			return false
		}
	}
	return len(list) == n
}

// checkPlayers tests Way, Round and Kings of a contest.
func checkPlayers(t *testing.T, c [][]int) {
	t.Helper()
	var before [][]int
	for _, row := range c {
		before = append(before, slices.Clone(row))
	}
	checkWay(t, c)
	checkRound(t, c)
	checkKings(t, c)
	if !slices.EqualFunc(c, before, slices.Equal) {
		t.Fatalf("%v was changed to %v", before, c)
	}
}

// checkWay follows the document.
func checkWay(t *testing.T, c [][]int) {
	t.Helper()
	way, e := scores.Way(c)
	if e != api.OK || !everyoneOnce(len(c), way) {
		t.Fatalf("Way(%v) = %v, %d", c, way, e)
	}
	for i := 1; i < len(way); i++ {
		if c[way[i-1]][way[i]] != 1 {
			t.Fatalf("Way(%v) = %v", c, way)
		}
	}
}

// checkRound follows the document: there is a round or a set, and never both.
func checkRound(t *testing.T, c [][]int) {
	t.Helper()
	n := len(c)
	round, set, e := scores.Round(c)
	if e != api.OK || len(round) > 0 && len(set) > 0 || len(round) == 0 && len(set) == 0 && n > 1 || n < 2 && len(round)+len(set) > 0 {
		t.Fatalf("Round(%v) = %v, %v, %d", c, round, set, e)
	}
	if len(round) > 0 && !everyoneOnce(n, round) {
		t.Fatalf("Round(%v) = %v", c, round)
	}
	for i, player := range round {
		if c[player][round[(i+1)%n]] != 1 {
			t.Fatalf("Round(%v) = %v", c, round)
		}
	}
	for i, player := range set {
		if i > 0 && set[i-1] >= player || player < 0 || player >= n || len(set) >= n {
			t.Fatalf("Round(%v) has the set %v", c, set)
		}
		for other, row := range c {
			if row[player] == 1 && !slices.Contains(set, other) {
				t.Fatalf("Round(%v) has the set %v, of which %d has beaten %d", c, set, other, player)
			}
		}
	}
}

// checkKings follows the document.
func checkKings(t *testing.T, c [][]int) {
	t.Helper()
	var want []int
	for player := range c {
		reached := slices.Clone(c[player])
		reached[player] = 1
		for other, won := range c[player] {
			for third, x := range c[other] {
				if won == 1 && x == 1 {
					reached[third] = 1
				}
			}
		}
		if total(reached) == len(c) {
			want = append(want, player)
		}
	}
	kings, e := scores.Kings(c)
	if e != api.OK || !slices.Equal(kings, want) {
		t.Fatalf("Kings(%v) = %v, %d, not %v", c, kings, e, want)
	}
	if len(c) > 0 && len(kings) == 0 || len(kings) == 2 || len(kings) == 1 && total(c[kings[0]]) != len(c)-1 {
		t.Fatalf("Kings(%v) = %v", c, kings)
	}
}

// P9.3 and P9.6: all contests of a few players.
func TestAllContests(t *testing.T) {
	for n := range 7 {
		for _, c := range allContests(n) {
			checkPlayers(t, c)
		}
	}
}

// P9.3: random contests, up to the limits.
func TestManyContests(t *testing.T) {
	x := rand.New(rand.NewSource(3))
	for range 1500 {
		n := 2 + x.Intn(29)
		checkPlayers(t, someContest(x, n))
		// Two groups, one of which has beaten the other, but for one result at times.
		names := x.Perm(n)
		first, exception := x.Intn(n), [2]int{x.Intn(n), x.Intn(n)}
		checkPlayers(t, contestOf(n, func(a, b int) bool {
			if names[a] < first == (names[b] < first) {
				return x.Intn(2) == 0
			}
			return names[a] < first != (exception == [2]int{a, b})
		}))
		// Each player has beaten the ones after it, but for the one right after it; or the other way around.
		checkPlayers(t, contestOf(n, func(a, b int) bool { return names[a]+1 < names[b] || names[a] == names[b]+1 }))
		checkPlayers(t, contestOf(n, func(a, b int) bool { return (names[a]-names[b]+n)%n <= n/2 }))
	}
}

func TestContestsNamed(t *testing.T) {
	if round, set, e := scores.Round([][]int{{0, 0}, {1, 0}}); len(round) != 0 || !slices.Equal(set, []int{1}) || e != api.OK {
		t.Errorf("Round of two = %v, %v, %d", round, set, e)
	}
	for _, c := range [][][]int{nil, {}, {{0}}} {
		round, set, e := scores.Round(c)
		if len(round) != 0 || len(set) != 0 || e != api.OK {
			t.Errorf("Round(%v) = %v, %v, %d", c, round, set, e)
		}
		way, e := scores.Way(c)
		kings, f := scores.Kings(c)
		if len(way) != len(c) || len(kings) != len(c) || e != api.OK || f != api.OK {
			t.Errorf("Way(%v) = %v, %d; Kings %v, %d", c, way, e, kings, f)
		}
	}
	if round, _, e := scores.Round([][]int{{0, 1, 0}, {0, 0, 1}, {1, 0, 0}}); len(round) != 3 || e != api.OK {
		t.Errorf("Round of three in a circle = %v, %d", round, e)
	}
}

// checkNoContest tests that each function returns ErrArg, and nothing else.
func checkNoContest(t *testing.T, c [][]int) {
	t.Helper()
	way, e := scores.Way(c)
	round, set, f := scores.Round(c)
	kings, g := scores.Kings(c)
	if len(way)+len(round)+len(set)+len(kings) != 0 || e != api.ErrArg || f != api.ErrArg || g != api.ErrArg {
		t.Fatalf("%v is no contest: Way = %v, %d; Round = %v, %v, %d; Kings = %v, %d", c, way, e, round, set, f, kings, g)
	}
}

func TestPlayersRefuse(t *testing.T) {
	for _, c := range [][][]int{
		{nil}, {{}}, {{0, 0}}, {{0, 1}}, {{1}}, {nil, nil}, {{0, 1}, {0}}, {{0}, {0, 0}}, {{0, 1}}, {{0, 1}, nil}, {{0, 1, 0}, {0, 0, 0}},
		{{0, 1}, {0, 0}, {0, 0}}, {{0, 2}, {-1, 0}}, {{0, math.MaxInt}, {math.MinInt, 0}}, {{0, 1, 1}, {0, 0, 1}, {0, 0}}, {{0, 1, 1}, {0, 0, 1}, {0, 0, 0, 0}},
		contestOf(31, func(a, b int) bool { return true }), make([][]int, 1000),
	} {
		checkNoContest(t, c)
	}
	x := rand.New(rand.NewSource(4))
	for range 500 {
		n := 1 + x.Intn(30)
		c := someContest(x, n)
		checkPlayers(t, c)
		a, b := x.Intn(n), x.Intn(n)
		c[a][b] = 1 - c[a][b]
		checkNoContest(t, c)
	}
}
