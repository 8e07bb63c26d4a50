package roll

// seam is where two letters stand side by side, and how often it occurs in the whole texts.
type seam struct {
	left, right, often int
}

// sides reports for every letter whether it is a left one. At least a quarter of all neighbours are a left letter and a right one after it: so the texts shrink in every round.
func (t *texts) sides() []bool {
	seams := t.seams()
	onLeft := parted(len(t.names.letters), seams)
	surplus := 0
	for _, s := range seams {
		switch {
		case onLeft[s.left] && !onLeft[s.right]:
			surplus += s.often
		case !onLeft[s.left] && onLeft[s.right]:
			surplus -= s.often
		}
	}
	if surplus < 0 {
		for at := range onLeft {
			onLeft[at] = !onLeft[at]
		}
	}
	return onLeft
}

// seams lists all places at which letters stand side by side.
func (t *texts) seams() []seam {
	var seams []seam
	firsts := make([]int, len(t.rests))
	lasts := make([]int, len(t.rests))
	for i, r := range t.rests {
		for j, s := range r.symbols {
			first, last := s.run.letter, s.run.letter
			if !s.isRun() {
				first, last = firsts[s.piece], lasts[s.piece]
			}
			if j == 0 {
				firsts[i] = first
			} else {
				seams = append(seams, seam{lasts[i], first, r.often})
			}
			lasts[i] = last
		}
	}
	return seams
}

// parted puts each of n letters on the side on which fewer of its neighbours with smaller numbers are. So at least half of all neighbours are on different sides.
func parted(n int, seams []seam) []bool {
	smaller := make([][]seam, n)
	for _, s := range seams {
		greater := max(s.left, s.right)
		smaller[greater] = append(smaller[greater], s)
	}
	onLeft := make([]bool, n)
	for at := range n {
		surplus := 0
		for _, s := range smaller[at] {
			if onLeft[min(s.left, s.right)] {
				surplus += s.often
			} else {
				surplus -= s.often
			}
		}
		onLeft[at] = surplus < 0
	}
	return onLeft
}
