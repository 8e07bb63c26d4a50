package roll

import (
	"slices"

	"ticking/api"
)

// A cut adds at most two pieces for each level of the roll: from maxCut pieces it makes at most api.MaxRules.
const maxCut = 20

// maxBuild letters need one piece each, and one for each seam.
const maxBuild = 32

// Cut returns a valid roll whose text is that of the positions from from to to - 1.
func Cut(r []api.Piece, from, to int) ([]api.Piece, api.Errno) {
	w, ok := read(r)
	if !ok || from < 0 || from >= to || to > w.length() {
		return nil, api.ErrArg
	}
	if len(r) > maxCut {
		return nil, api.ErrFull
	}
	parts := w.covering(nil, w.last(), from, to)
	if len(parts) == 1 {
		return slices.Clone(r[:parts[0]+1]), api.OK
	}
	cut := slices.Clone(r)
	whole := parts[0]
	for _, part := range parts[1:] {
		cut = append(cut, api.Piece{A: whole, B: part})
		whole = len(cut) - 1
	}
	return cut, api.OK
}

// Turn returns a valid roll whose text is that of r in reverse order.
func Turn(r []api.Piece) ([]api.Piece, api.Errno) {
	if _, ok := sizes(r); !ok {
		return nil, api.ErrArg
	}
	turned := make([]api.Piece, len(r))
	for i, p := range r {
		turned[i] = api.Piece{Letter: p.Letter, A: p.B, B: p.A}
	}
	return turned, api.OK
}

// Build returns a valid roll with this text.
func Build(text string) ([]api.Piece, api.Errno) {
	if !isText(text, maxBuild) {
		return nil, api.ErrArg
	}
	r := []api.Piece{{Letter: text[0]}}
	for i := 1; i < len(text); i++ {
		before := len(r) - 1
		r = append(r, api.Piece{Letter: text[i]}, api.Piece{A: before, B: before + 1})
	}
	return r, api.OK
}
