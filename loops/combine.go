package loops

import "ticking/api"

// way tells joins from meets.
type way int

const (
	up   way = iota // a join
	down            // a meet
)

// goal is the join or the meet of two nodes.
type goal struct {
	way way
	of  pair
}

// combine returns canonical types of a join or a meet.
func combine(t []api.Type, first goal) ([]api.Type, api.Errno) {
	if !valid(t, first.of[:]...) {
		return nil, api.ErrArg
	}
	nodes := unfold(first, func(g goal, place func(goal) int) api.Type {
		return g.node(t, place)
	})
	return canonical(nodes, 0), api.OK
}

func (g goal) node(t []api.Type, place func(goal) int) api.Type {
	g = g.simpler(t)
	left, right := t[g.of[0]], t[g.of[1]]
	if left.Kind != right.Kind {
		return api.Type{Kind: g.way.farthest()}
	}
	if !hasParts(left) {
		return left
	}
	a := goal{way: g.way, of: pair{left.A, right.A}}
	if left.Kind == kindFn {
		a.way = g.way.other()
	}
	b := goal{way: g.way, of: pair{left.B, right.B}}
	atA := place(a)
	atB := place(b)
	return api.Type{Kind: left.Kind, A: atA, B: atB}
}

// simpler returns the goal of a node and itself, if the other node of the pair changes nothing: their join and meet are this node.
func (g goal) simpler(t []api.Type) goal {
	nothing := g.way.other().farthest()
	switch i, j := g.of[0], g.of[1]; {
	case t[i].Kind == nothing:
		g.of = pair{j, j}
	case t[j].Kind == nothing:
		g.of = pair{i, i}
	}
	return g
}

// farthest returns the kind that no join, or no meet, goes beyond.
func (w way) farthest() int {
	if w == up {
		return kindAll
	}
	return kindNone
}

func (w way) other() way {
	if w == up {
		return down
	}
	return up
}
