package roll

import (
	"slices"

	"ticking/api"
)

// symbol is a run in a text or, if its count is 0, what is left of the text of a piece.
type symbol struct {
	run   run
	piece int
}

func (s symbol) isRun() bool { return s.run.count > 0 }

// rest is what is left of the text of a piece after this round has taken the runs head and tail from its ends.
type rest struct {
	symbols    []symbol
	head, tail run
	often      int // how often the piece occurs in the whole texts
}

// texts shrink together, in rounds. In a round, letters that stand side by side become one letter, in the same way everywhere: so texts are equal if and only if they become the same letter in the end.
//
// Such letters may stand at the ends of two pieces. Therefore each piece first gives them to the pieces that contain it.
type texts struct {
	names  names
	rests  []rest
	wholes []int // the pieces whose texts are asked for, from which nothing is taken
}

// shrink returns for each valid roll the letter that its text becomes.
func shrink(rolls ...[]api.Piece) (*names, []int) {
	t := newTexts(rolls)
rounds:
	for {
		t.joinRuns()
		for _, whole := range t.wholes {
			if len(t.rests[whole].symbols) > 1 {
				t.joinPairs()
				continue rounds
			}
		}
		break rounds
	}
	var ends []int
	for _, whole := range t.wholes {
		ends = append(ends, t.rests[whole].symbols[0].run.letter)
	}
	return &t.names, ends
}

func newTexts(rolls [][]api.Piece) *texts {
	t := &texts{names: newNames()}
	for _, roll := range rolls {
		start := len(t.rests)
		for _, p := range roll {
			symbols := []symbol{{piece: start + p.A}, {piece: start + p.B}}
			if p.Letter != 0 {
				symbols = []symbol{{run: run{int(p.Letter - 'a'), 1}}}
			}
			t.rests = append(t.rests, rest{symbols: symbols})
		}
		t.wholes = append(t.wholes, len(t.rests)-1)
	}
	t.countPieces()
	return t
}

// countPieces also empties the pieces that occur nowhere, as the rounds would not make them shorter.
func (t *texts) countPieces() {
	for _, whole := range t.wholes {
		t.rests[whole].often = 1
	}
	for i := len(t.rests) - 1; i >= 0; i-- {
		r := &t.rests[i]
		if r.often == 0 {
			r.symbols = nil
		}
		for _, s := range r.symbols {
			if !s.isRun() {
				t.rests[s.piece].often += r.often
			}
		}
	}
}

// joinRuns makes each run of several letters a single letter.
func (t *texts) joinRuns() {
	always := func(int) bool { return true }
	for i := range t.rests {
		t.gather(i, always, always)
		symbols := t.rests[i].symbols
		for j, s := range symbols {
			if s.run.count > 1 {
				symbols[j].run = run{t.names.number(letter{left: s.run}), 1}
			}
		}
	}
}

// joinPairs makes each left letter and the right letter after it a single letter. No letter has itself as its neighbour.
func (t *texts) joinPairs() {
	onLeft := t.sides()
	isLeft := func(letter int) bool { return onLeft[letter] }
	isRight := func(letter int) bool { return !onLeft[letter] }
	for i := range t.rests {
		t.gather(i, isRight, isLeft)
		var joined []symbol
		symbols := t.rests[i].symbols
		for len(symbols) > 0 {
			first := symbols[0]
			symbols = symbols[1:]
			if len(symbols) > 0 && first.isRun() && symbols[0].isRun() &&
				isLeft(first.run.letter) && isRight(symbols[0].run.letter) {
				pair := letter{first.run, symbols[0].run}
				first.run.letter = t.names.number(pair)
				symbols = symbols[1:]
			}
			joined = append(joined, first)
		}
		t.rests[i].symbols = joined
	}
}

// gather takes in what the pieces in piece i give, and lets the piece itself give a run at its beginning and one at its end, if these are asked for.
func (t *texts) gather(i int, asksHead, asksTail func(letter int) bool) {
	r := &t.rests[i]
	r.symbols = t.opened(r.symbols)
	r.head, r.tail = run{}, run{}
	if slices.Contains(t.wholes, i) {
		return
	}
	if len(r.symbols) > 0 && r.symbols[0].isRun() && asksHead(r.symbols[0].run.letter) {
		r.head = r.symbols[0].run
		r.symbols = r.symbols[1:]
	}
	last := len(r.symbols) - 1
	if last >= 0 && r.symbols[last].isRun() && asksTail(r.symbols[last].run.letter) {
		r.tail = r.symbols[last].run
		r.symbols = r.symbols[:last]
	}
}

// opened returns the symbols with what their pieces have given beside them, and with runs that are as long as possible.
func (t *texts) opened(symbols []symbol) []symbol {
	var opened []symbol
	for _, s := range symbols {
		if s.isRun() {
			opened = withRun(opened, s.run)
			continue
		}
		inner := t.rests[s.piece]
		opened = withRun(opened, inner.head)
		if len(inner.symbols) > 0 {
			opened = append(opened, s)
		}
		opened = withRun(opened, inner.tail)
	}
	return opened
}

// withRun appends a run, which may be empty, or makes the last one longer.
func withRun(symbols []symbol, r run) []symbol {
	last := len(symbols) - 1
	switch {
	case r.count == 0:
		return symbols
	case last >= 0 && symbols[last].isRun() && symbols[last].run.letter == r.letter:
		symbols[last].run.count += r.count
		return symbols
	default:
		return append(symbols, symbol{run: r})
	}
}
