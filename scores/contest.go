package scores

import (
	"slices"

	"ticking/api"
)

// meetings is the number of times that two of n players meet: the sum of their scores.
func meetings(n int) int { return n * (n - 1) / 2 }

// showsNoContest reports whether k shows that the scores have no contest: k players beat each other as often as they meet.
func showsNoContest(scores []int, k int) bool {
	if k == wrongSum {
		return sum(scores) != meetings(len(scores))
	}
	return 1 <= k && k <= len(scores) && sum(slices.Sorted(slices.Values(scores))[:k]) < meetings(k)
}

// contestFor returns a contest for scores that have one. If they do, there is also one in which a given player has beaten those with the smallest scores; so each player in turn beats these among the later ones.
func contestFor(scores []int) [][]int {
	left := slices.Clone(scores)
	contest := make([][]int, len(scores))
	for player := range contest {
		contest[player] = make([]int, len(scores))
	}
	for player := range contest {
		later := sortedBy(span(player+1, len(scores)-1), func(other int) int { return left[other] })
		for rank, other := range later {
			if rank < left[player] {
				contest[player][other] = 1
			} else {
				contest[other][player] = 1
				left[other]--
			}
		}
	}
	return contest
}

func isContest(list [][]int) bool {
	if len(list) > api.MaxPlayers {
		return false
	}
	for _, row := range list {
		if len(row) != len(list) || !allBetween(row, 0, 1) {
			return false
		}
	}
	for a := range list {
		for b := range a {
			if list[a][b] == list[b][a] {
				return false
			}
		}
		if list[a][a] != 0 {
			return false
		}
	}
	return true
}

func hasScores(contest [][]int, scores []int) bool {
	return slices.EqualFunc(contest, scores, func(row []int, score int) bool { return sum(row) == score })
}

// duels is a contest, asked for its results.
type duels [][]int

func (d duels) won(winner, loser int) bool { return d[winner][loser] == 1 }

// wayIn lists all players so that each one has beaten the next one: each player comes before the first one that it has beaten, so that the one before it has beaten it.
func wayIn(d duels) []int {
	var way []int
	insert := func(player int) {
		at := slices.IndexFunc(way, func(other int) bool { return d.won(player, other) })
		if at < 0 {
			at = len(way)
		}
		way = slices.Insert(way, at, player)
	}
	for player := range d {
		insert(player)
	}
	return way
}

// roundIn lengthens a round, of one player at first, until it has all players, or cannot be lengthened.
func roundIn(d duels) ([]int, []int) {
	if len(d) < 2 {
		return nil, nil
	}
	round := []int{0}
	for len(round) < len(d) {
		at, players := d.link(round)
		if len(players) == 0 {
			return nil, d.unbeaten(round)
		}
		round = slices.Insert(round, at, players...)
	}
	return round, nil
}

// outside lists the players that are not in the round.
func (d duels) outside(round []int) []int {
	return slices.DeleteFunc(span(0, len(d)-1), func(player int) bool { return slices.Contains(round, player) })
}

// link returns one player or two that lengthen the round, and the position at which they are inserted.
func (d duels) link(round []int) (int, []int) {
	others := d.outside(round)
	for _, player := range others {
		for at, next := range round {
			last := round[(at+len(round)-1)%len(round)]
			if d.won(last, player) && d.won(player, next) {
				return at, []int{player}
			}
		}
	}
	// If no single player fits, each one has beaten all of the round, or none of it; so two that fit at one position fit at every one.
	for _, loser := range others {
		for _, winner := range others {
			if d.won(round[0], loser) && d.won(loser, winner) && d.won(winner, round[0]) {
				return len(round), []int{loser, winner}
			}
		}
	}
	return 0, nil
}

// unbeaten returns players that no other one has beaten, if the round cannot be lengthened. Whoever has lost to the round has then lost to whoever has beaten it, too; so these are unbeaten, or the round is, if there are none.
func (d duels) unbeaten(round []int) []int {
	above := slices.DeleteFunc(d.outside(round), func(player int) bool { return d.won(round[0], player) })
	if len(above) == 0 {
		return slices.Sorted(slices.Values(round))
	}
	return above
}

func kingsIn(d duels) []int {
	var kings []int
	for player := range d {
		if d.isKing(player) {
			kings = append(kings, player)
		}
	}
	return kings
}

func (d duels) isKing(player int) bool {
	for other := range d {
		if other != player && !d.won(player, other) && !d.wonThrough(player, other) {
			return false
		}
	}
	return true
}

// wonThrough reports whether the first player has beaten one that has beaten the other.
func (d duels) wonThrough(player, other int) bool {
	for between := range d {
		if d.won(player, between) && d.won(between, other) {
			return true
		}
	}
	return false
}
